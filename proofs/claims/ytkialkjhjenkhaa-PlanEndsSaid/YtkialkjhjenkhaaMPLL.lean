/- Layer 20: the statements' listings: plain maths, and what is known while one is made. -/
import Derived.Test.YtkialkjhjenkhaaMPLK
import Derived.Test.YtkialkjhjenkhaaMMP
import Derived.Test.YtkialkjhjenkhaaMStr
namespace Go.Proofs.Ytkialkjhjenkhaa
open Go.RowKit Go.Lib
set_option linter.unusedVariables false

/-- A block of the statements. -/
structure Og where
  fr : Int
  wi : Int
  sz : Int
  so : Int
  md : Bool
def Og.c (x : Og) : List Value := [.int .i64 x.fr, .int .i64 x.wi, .int .i64 x.sz, .int .i64 x.so, .bool x.md]
def ogc (l : List Og) : List Value := l.flatMap Og.c
theorem ogc_len (l : List Og) : (ogc l).length = l.length * 5 := by
  induction l with
  | nil => rfl
  | cons x l ih => simp only [ogc, List.flatMap_cons, List.length_append, List.length_cons, Og.c, List.length_nil] at *; omega
theorem ogc_at : ∀ (l : List Og) (i : Nat) (x : Og), l[i]? = some x → ∀ k, k < 5 → (ogc l)[i * 5 + k]? = x.c[k]?
  | [], i, q, h => by simp at h
  | x :: l, 0, q, h => by
    intro k hk
    simp only [List.getElem?_cons_zero, Option.some.injEq] at h
    subst h
    show (x.c ++ ogc l)[0 * 5 + k]? = _
    rw [Nat.zero_mul, Nat.zero_add, List.getElem?_append_left (by simpa [Og.c] using hk)]
  | x :: l, i + 1, q, h => by
    intro k hk
    have ih := ogc_at l i q (by simpa using h) k hk
    show (x.c ++ ogc l)[(i + 1) * 5 + k]? = _
    rw [List.getElem?_append_right (by simp [Og.c]; omega), ← ih]
    congr 1
    simp [Og.c]; omega
def srcAt (s : Int) (k : Nat) : Bool := decide (s / 2 ^ k % 2 = 1)
def srcN (s : Int) (i : Nat) : List (List UInt8) := ((List.range i).filter (srcAt s)).map (Idn.nam 1)
theorem srcN_succ (s : Int) (i : Nat) : srcN s (i + 1) = srcN s i ++ (if srcAt s i then [Idn.nam 1 i] else []) := by
  unfold srcN
  rw [List.range_succ, List.filter_append, List.map_append]
  cases h : srcAt s i <;> simp [h]
def meO (wd : Int) (i : Nat) (x : Og) : Mt.Me := ⟨Idn.nam 1 i, x.fr % 16 * wd, x.fr % 16 * wd + (1 + x.wi % 4) * wd, 1 + x.wi % 4, 1, 1 + x.sz % 32768, [⟨[99, 104, 117, 110, 107, 115], x.sz % 262144, 0⟩, ⟨[105, 110, 100, 101, 120], 9, 0⟩], srcN x.so i⟩
/-- The first blocks. -/
def msO (wd : Int) (l : List Og) (i : Nat) : List Mt.Me := (List.range i).filterMap (fun k => l[k]?.map (meO wd k))
theorem msO_succ (wd : Int) (l : List Og) (i : Nat) (x : Og) (h : l[i]? = some x) : msO wd l (i + 1) = msO wd l i ++ [meO wd i x] := by
  unfold msO
  rw [List.range_succ, List.filterMap_append]
  simp [h]
def ksO (l : List Og) (i : Nat) : List (List UInt8) := (List.range i).filterMap (fun k => match l[k]? with | some x => if x.md then some (Idn.nam 1 k) else none | none => none)
theorem ksO_succ (l : List Og) (i : Nat) (x : Og) (h : l[i]? = some x) : ksO l (i + 1) = ksO l i ++ (if x.md then [Idn.nam 1 i] else []) := by
  unfold ksO
  rw [List.range_succ, List.filterMap_append]
  cases hm : x.md <;> simp [h, hm]
/-- When the first blocks were marked. -/
def mkO (l : List Og) (i : Nat) : List Int := (List.range i).filterMap (fun k => l[k]?.map (fun x => if x.md then 3 else -1))
theorem mkO_succ (l : List Og) (i : Nat) (x : Og) (h : l[i]? = some x) : mkO l (i + 1) = mkO l i ++ [if x.md then 3 else -1] := by
  unfold mkO
  rw [List.range_succ, List.filterMap_append]
  simp [h]
/-- The document's blocks in a slice. -/
def tcs (ts : List (Mq × Int)) : List Value := ts.flatMap (fun p => mqc p.1 ++ [.int .i64 p.2])
theorem tcs_length (ts : List (Mq × Int)) : (tcs ts).length = ts.length * 9 := by
  induction ts with
  | nil => rfl
  | cons x ts ih => simp only [tcs, List.flatMap_cons, List.length_append, List.length_cons, mqc, List.length_nil] at *; omega
theorem tcs_append (a b : List (Mq × Int)) : tcs (a ++ b) = tcs a ++ tcs b := by simp [tcs]
/-- A list's own memory: new, and neither of two slices'. -/
def Own2 (S N : Nat) (x v6 v8 : Value) : Prop := ∀ k, x.ownBlock = some k → S ≤ k ∧ k < N ∧ v6.ownBlock ≠ some k ∧ v8.ownBlock ≠ some k
theorem Own2.grow {S N N' : Nat} {x v6 v8 : Value} (h : Own2 S N x v6 v8) (hn : N ≤ N') : Own2 S N' x v6 v8 := fun k hk => ⟨(h k hk).1, Nat.lt_of_lt_of_le (h k hk).2.1 hn, (h k hk).2.2⟩
/-- What is known while a listing is made. -/
structure LgI (w W : World) (wd : Int) (l : List Og) (i : Nat) (v6 v8 : Value) (qs : List Mq) (ts : List (Mq × Int)) : Prop where
  sl6 : Sl W (w.heap.size + 2) 8 v6 i (msc qs)
  sl8 : Sl W (w.heap.size + 2) 9 v8 i (tcs ts)
  ms : qs.map Mq.m = msO wd l i
  tm : ts.map (fun p => p.1.m) = msO wd l i
  tk : ts.map Prod.snd = mkO l i
  ne : ∀ k, v6.ownBlock = some k → v8.ownBlock ≠ some k
  n6 : v6.ownBlock ≠ some (w.heap.size + 3)
  n8 : v8.ownBlock ≠ some (w.heap.size + 3)
  mks : MarkM (w.heap.size + 3) (ksO l i) W
  ok6 : ∀ q ∈ qs, MeR W q.m q.vf q.vs ∧ Own2 (w.heap.size + 5) W.heap.size q.vf v6 v8 ∧ Own2 (w.heap.size + 5) W.heap.size q.vs v6 v8
  ok8 : ∀ p ∈ ts, MeR W p.1.m p.1.vf p.1.vs ∧ Own2 (w.heap.size + 5) W.heap.size p.1.vf v6 v8 ∧ Own2 (w.heap.size + 5) W.heap.size p.1.vs v6 v8
  r4 : W.heap[w.heap.size]? = some (.cells #[.int .i64 0, .slice none 0 0, .map none] 26 (0, 0))
  r5 : W.heap[w.heap.size + 1]? = some (.cells #[.int .i64 0, .slice none 0 0] 29 (0, 0))
  below : Below w.heap.size w W
  big : w.heap.size + 5 ≤ W.heap.size
theorem LgI.on {w W W' : World} {wd : Int} {l : List Og} {i : Nat} {v6 v8 : Value} {qs : List Mq} {ts : List (Mq × Int)} (h : LgI w W wd l i v6 v8 qs ts) (b : Below W.heap.size W W') : LgI w W' wd l i v6 v8 qs ts :=
  ⟨h.sl6.on b, h.sl8.on b, h.ms, h.tm, h.tk, h.ne, h.n6, h.n8, h.mks.turn (S := fun _ => False) (Turn.of_below b) id, fun q hq => ⟨(h.ok6 q hq).1.on b, (h.ok6 q hq).2.1.grow b.size, (h.ok6 q hq).2.2.grow b.size⟩, fun q hq => ⟨(h.ok8 q hq).1.on b, (h.ok8 q hq).2.1.grow b.size, (h.ok8 q hq).2.2.grow b.size⟩, (b.block _ (by have := h.big; omega)).trans h.r4, (b.block _ (by have := h.big; omega)).trans h.r5, h.below.trans (b.mono (by have := h.big; omega)), Nat.le_trans h.big b.size⟩
theorem MeR.turnN {S : Nat → Prop} {w w' : World} {m : Mt.Me} {vf vs : Value} (h : MeR w m vf vs) (t : Turn S w w') (hf : ∀ k, vf.ownBlock = some k → ¬ S k) (hs : ∀ k, vs.ownBlock = some k → ¬ S k) : MeR w' m vf vs :=
  ⟨h.1.turnN t (fun _ => hf), h.2.1.turnN t (fun _ => hs), h.2.2⟩
theorem MeR.keptG {w w' : World} {row : Option Nat} {m : Mt.Me} {vf vs : Value} (h : MeR w m vf vs) (hg : w.grownBy w' row) (hf : ∀ k, vf.ownBlock = some k → row ≠ some k) (hs : ∀ k, vs.ownBlock = some k → row ≠ some k) : MeR w' m vf vs :=
  ⟨h.1.grown hg (fun hn e => by obtain ⟨g, hg', _⟩ := h.1.own hn; exact hf g hg' (e ▸ hg')), h.2.1.grown hg (fun hn e => by obtain ⟨g, hg', _⟩ := h.2.1.own hn; exact hs g hg' (e ▸ hg')), h.2.2⟩
/-- One block more. -/
theorem LgI.push {w W0 W8 W10 W12 : World} {o1 o2 : Obj} {wd : Int} {l : List Og} {i : Nat} {v6 v8 v6' v8' : Value} {qs : List Mq} {ts : List (Mq × Int)} (h : LgI w W0 wd l i v6 v8 qs ts) (x : Og) (hx : l[i]? = some x)
    (t : Turn (fun k => k = w.heap.size + 3) W0 W8) (hmk : MarkM (w.heap.size + 3) (ksO l (i + 1)) W8) (q tq : Mq) (hqm : q.m = meO wd i x) (htm : tq.m = meO wd i x)
    (hq : MeR W8 q.m q.vf q.vs) (ht : MeR W8 tq.m tq.vf tq.vs) (oq : (∀ k, q.vf.ownBlock = some k → W0.heap.size ≤ k ∧ k < W8.heap.size) ∧ ∀ k, q.vs.ownBlock = some k → W0.heap.size ≤ k ∧ k < W8.heap.size) (ot : (∀ k, tq.vf.ownBlock = some k → W0.heap.size ≤ k ∧ k < W8.heap.size) ∧ ∀ k, tq.vs.ownBlock = some k → W0.heap.size ≤ k ∧ k < W8.heap.size)
    (e6 : Ext (w.heap.size + 2) 8 (W8.alloc o1) v6 i (msc qs) W10 v6' (i + 1) (msc qs ++ mqc q)) (e8 : Ext (w.heap.size + 2) 9 (W10.alloc o2) v8 i (tcs ts) W12 v8' (i + 1) (tcs ts ++ (mqc tq ++ [.int .i64 (if x.md then 3 else -1)]))) :
    LgI w W12 wd l (i + 1) v6' v8' (qs ++ [q]) (ts ++ [(tq, if x.md then 3 else -1)]) := by
  have z0 := h.big
  have z8 := t.size
  have s9 : (W8.alloc o1).heap.size = W8.heap.size + 1 := by simp
  have z10 := e6.grown.size
  have s11 : (W10.alloc o2).heap.size = W10.heap.size + 1 := by simp
  have z12 := e8.grown.size
  have b89 : Below W8.heap.size W8 (W8.alloc o1) := (Below.refl _ _).alloc (Nat.le_refl _) _
  have b1011 : Below W10.heap.size W10 (W10.alloc o2) := (Below.refl _ _).alloc (Nat.le_refl _) _
  have l6 := fun k hk => h.sl6.lt k hk
  have l8 := fun k hk => h.sl8.lt k hk
  -- whose memory
  have own6 : ∀ k, v6'.ownBlock = some k → v6.ownBlock = some k ∨ W8.heap.size + 1 ≤ k := by
    intro k hk
    rcases e6.alias with ⟨a, cap, a1, a2, _⟩ | hnew
    · left; rw [a1]; rw [a2] at hk; rw [ownBlock_slice a i (i + 1) cap cap]; exact hk
    · right; have := hnew k hk; omega
  have own8 : ∀ k, v8'.ownBlock = some k → v8.ownBlock = some k ∨ W10.heap.size + 1 ≤ k := by
    intro k hk
    rcases e8.alias with ⟨a, cap, a1, a2, _⟩ | hnew
    · left; rw [a1]; rw [a2] at hk; rw [ownBlock_slice a i (i + 1) cap cap]; exact hk
    · right; have := hnew k hk; omega
  have lt6 : ∀ k, v6'.ownBlock = some k → w.heap.size + 2 ≤ k ∧ k < W10.heap.size := fun k hk => e6.now.lt k hk
  -- lists stand
  have key : ∀ (m : Mt.Me) (vf vs : Value), MeR W8 m vf vs → (∀ k, vf.ownBlock = some k → k < W8.heap.size ∧ v6.ownBlock ≠ some k ∧ v8.ownBlock ≠ some k) → (∀ k, vs.ownBlock = some k → k < W8.heap.size ∧ v6.ownBlock ≠ some k ∧ v8.ownBlock ≠ some k) → MeR W12 m vf vs := by
    intro m vf vs hm hf hs
    have h1 := (hm.on b89).keptG e6.grown (fun k hk => (hf k hk).2.1) (fun k hk => (hs k hk).2.1)
    exact (h1.on b1011).keptG e8.grown (fun k hk => (hf k hk).2.2) (fun k hk => (hs k hk).2.2)
  have newo : ∀ (x : Value), (∀ k, x.ownBlock = some k → W0.heap.size ≤ k ∧ k < W8.heap.size) → (∀ k, x.ownBlock = some k → k < W8.heap.size ∧ v6.ownBlock ≠ some k ∧ v8.ownBlock ≠ some k) ∧ Own2 (w.heap.size + 5) W12.heap.size x v6' v8' := by
    intro x hx
    have h1 : ∀ k, x.ownBlock = some k → k < W8.heap.size ∧ v6.ownBlock ≠ some k ∧ v8.ownBlock ≠ some k := fun k hk => ⟨(hx k hk).2, fun e => by have := (l6 k e).2; have := (hx k hk).1; omega, fun e => by have := (l8 k e).2; have := (hx k hk).1; omega⟩
    refine ⟨h1, fun k hk => ⟨by have := (hx k hk).1; omega, by have := (hx k hk).2; omega, fun e => ?_, fun e => ?_⟩⟩
    · rcases own6 k e with e2 | e2
      · exact (h1 k hk).2.1 e2
      · have := (hx k hk).2; omega
    · rcases own8 k e with e2 | e2
      · exact (h1 k hk).2.2 e2
      · have := (hx k hk).2; omega
  have oldo : ∀ (x : Value), Own2 (w.heap.size + 5) W0.heap.size x v6 v8 → (∀ k, x.ownBlock = some k → k < W8.heap.size ∧ v6.ownBlock ≠ some k ∧ v8.ownBlock ≠ some k) ∧ Own2 (w.heap.size + 5) W12.heap.size x v6' v8' := by
    intro x ho
    refine ⟨fun k hk => ⟨by have := (ho k hk).2.1; omega, (ho k hk).2.2⟩, fun k hk => ⟨(ho k hk).1, by have := (ho k hk).2.1; omega, fun e => ?_, fun e => ?_⟩⟩
    · rcases own6 k e with e2 | e2
      · exact (ho k hk).2.2.1 e2
      · have := (ho k hk).2.1; omega
    · rcases own8 k e with e2 | e2
      · exact (ho k hk).2.2.2 e2
      · have := (ho k hk).2.1; omega
  have nt : ∀ (x : Value), Own2 (w.heap.size + 5) W0.heap.size x v6 v8 → ∀ k, x.ownBlock = some k → ¬ k = w.heap.size + 3 := fun x ho k hk e => by have := (ho k hk).1; omega
  have nq1 := newo q.vf oq.1
  have nq2 := newo q.vs oq.2
  have nt1 := newo tq.vf ot.1
  have nt2 := newo tq.vs ot.2
  have bl : ∀ k, k < W8.heap.size → v6.ownBlock ≠ some k → v8.ownBlock ≠ some k → W12.heap[k]? = W8.heap[k]? := fun k hk n6 n8 =>
    (e8.grown.block k (by omega) (fun e => n8 e.symm)).trans ((b1011.block k (by omega)).trans ((e6.grown.block k (by omega) (fun e => n6 e.symm)).trans (b89.block k hk)))
  have hb : ∀ k, k < W0.heap.size → k ≠ w.heap.size + 3 → v6.ownBlock ≠ some k → v8.ownBlock ≠ some k → W12.heap[k]? = W0.heap[k]? := fun k hk hne n6 n8 => (bl k (by omega) n6 n8).trans (t.block k hk hne)
  have ol6 : ∀ k, k < w.heap.size + 2 → v6.ownBlock ≠ some k := fun k hk e => by have := (l6 k e).1; omega
  have ol8 : ∀ k, k < w.heap.size + 2 → v8.ownBlock ≠ some k := fun k hk e => by have := (l8 k e).1; omega
  refine ⟨?_, ?_, ?_, ?_, ?_, ?_, ?_, ?_, ?_, ?_, ?_, (hb _ (by omega) (by omega) (ol6 _ (by omega)) (ol8 _ (by omega))).trans h.r4, (hb _ (by omega) (by omega) (ol6 _ (by omega)) (ol8 _ (by omega))).trans h.r5, ?_, by omega⟩
  · -- the metas' slice stands while the document's grows
    rw [msc_append, show msc [q] = mqc q by simp [msc]]
    refine (e6.now.alloc o2).kept e8.grown ?_
    cases hv : v6'.ownBlock with
    | none => exact .inl rfl
    | some k =>
      refine .inr (fun e => ?_)
      rcases own6 k hv with e2 | e2
      · exact h.ne k e2 e.symm
      · have := (l8 k e.symm).2; omega
  · rw [tcs_append, show tcs [(tq, if x.md then (3 : Int) else -1)] = mqc tq ++ [.int .i64 (if x.md then 3 else -1)] by simp [tcs]]
    exact e8.now
  · rw [List.map_append, h.ms, msO_succ wd l i x hx, ← hqm]; rfl
  · rw [List.map_append, h.tm, msO_succ wd l i x hx, ← htm]; rfl
  · rw [List.map_append, h.tk, mkO_succ l i x hx]; rfl
  · intro k hk e
    rcases own6 k hk with e2 | e2 <;> rcases own8 k e with e3 | e3
    · exact h.ne k e2 e3
    · have := (l6 k e2).2; omega
    · have := (l8 k e3).2; omega
    · have := (lt6 k hk).2; omega
  · intro e
    rcases own6 _ e with e2 | e2
    · exact h.n6 e2
    · omega
  · intro e
    rcases own8 _ e with e2 | e2
    · exact h.n8 e2
    · omega
  · exact hmk.same (bl _ (by omega) h.n6 h.n8)
  · intro p hp
    rcases List.mem_append.1 hp with hp | hp
    · have hh := h.ok6 p hp
      have o1 := oldo p.vf hh.2.1
      have o2 := oldo p.vs hh.2.2
      exact ⟨key _ _ _ (hh.1.turnN t (nt _ hh.2.1) (nt _ hh.2.2)) o1.1 o2.1, o1.2, o2.2⟩
    · rw [List.mem_singleton] at hp
      subst hp
      exact ⟨key _ _ _ hq nq1.1 nq2.1, nq1.2, nq2.2⟩
  · intro p hp
    rcases List.mem_append.1 hp with hp | hp
    · have hh := h.ok8 p hp
      have o1 := oldo p.1.vf hh.2.1
      have o2 := oldo p.1.vs hh.2.2
      exact ⟨key _ _ _ (hh.1.turnN t (nt _ hh.2.1) (nt _ hh.2.2)) o1.1 o2.1, o1.2, o2.2⟩
    · rw [List.mem_singleton] at hp
      subst hp
      exact ⟨key _ _ _ ht nt1.1 nt2.1, nt1.2, nt2.2⟩
  · have b08 := t.below (B := w.heap.size) (by omega) (fun k hk => by omega)
    have b810 := e6.below (B := w.heap.size) (by omega) (by omega)
    have b1012 := e8.below (B := w.heap.size) (by omega) (by omega)
    exact (((h.below.trans b08).trans (b89.mono (by omega))).trans b810).trans ((b1011.mono (by omega)).trans b1012)
end Go.Proofs.Ytkialkjhjenkhaa

/- Layer 12: a slice of series that came in, opened. Layer 12: names that were seen, counted in a map; two lists of labels that grow side by side; series that are told. -/
import Derived.Test.YtefhnjepocbodaaGreatDoorMLB
import Derived.Deep.Slices
import Derived.OpenShut
import Derived.ChangeSlices
import Derived.Test.YtefhnjepocbodaaGreatDoorMIY1
import Derived.Test.YtefhnjepocbodaaGreatDoorMLR
namespace Go.Proofs.YtefhnjepocbodaaGreatDoor
open Go.RowKit Go.Lib Go.Deep Go.ChangeShapes Go.WideShapes
set_option linter.unusedVariables false

/-- A series that came in: where its pairs lie, the first ten of them; does it stay? -/
structure Oi where
  a : Option Addr
  n : Nat
  c : Nat
  ds : List Pr
  st : Bool
instance : Inhabited Oi := ⟨⟨none, 0, 0, [], false⟩⟩
/-- The first twelve, read from cells. -/
structure OsR (w : World) (a : Option Addr) (len : Nat) (zs : List Oi) : Prop where
  hl : zs.length = min len 12
  hm : len ≤ maxLen
  at_ : 0 < len → ∃ g off, a = some ⟨g, off, none⟩ ∧ g < w.heap.size ∧ ∀ i z, zs[i]? = some z → w.cell? ⟨g, off + i * 2, none⟩ = some (.slice z.a z.n z.c) ∧ w.cell? ⟨g, off + i * 2 + 1, none⟩ = some (.bool z.st)
  ps : ∀ z ∈ zs, z.n ≤ maxLen ∧ PrsAt w z.a z.n z.ds
theorem OsR.on {w w' : World} {a : Option Addr} {len : Nat} {zs : List Oi} (h : OsR w a len zs) (b : Below w.heap.size w w') : OsR w' a len zs := by
  refine ⟨h.hl, h.hm, fun h0 => ?_, fun z hz => ⟨(h.ps z hz).1, (h.ps z hz).2.below b⟩⟩
  obtain ⟨g, off, he, hg, hc⟩ := h.at_ h0
  refine ⟨g, off, he, Nat.lt_of_lt_of_le hg b.size, fun i z hz => ?_⟩
  obtain ⟨c0, c1⟩ := hc i z hz
  exact ⟨(b.cell (p := ⟨g, off + i * 2, none⟩) hg).trans c0, (b.cell (p := ⟨g, off + i * 2 + 1, none⟩) hg).trans c1⟩
/-- With its capacity. -/
def OsC (w : World) (a : Option Addr) (len cap : Nat) (zs : List Oi) : Prop := OsR w a len zs ∧ len ≤ cap ∧ cap ≤ maxLen
theorem list_of12 {α : Type} {n : Nat} {P : Nat → α → Prop} (h : ∀ j, j < n → ∃ x, P j x) : ∃ l : List α, l.length = n ∧ ∀ (j : Nat) x, l[j]? = some x → P j x := by
  induction n with
  | zero => exact ⟨[], rfl, fun j x hx => by simp at hx⟩
  | succ n ih =>
    obtain ⟨l, hl, hP⟩ := ih fun j hj => h j (by omega)
    obtain ⟨x, hx⟩ := h n (by omega)
    refine ⟨l ++ [x], by simp [hl], fun j y hy => ?_⟩
    rcases Nat.lt_or_ge j n with hj | hj
    · rw [List.getElem?_append_left (by omega)] at hy
      exact hP j y hy
    · have : j = n := by have := (List.getElem?_eq_some_iff.1 hy).1; simp at this; omega
      subst this
      rw [List.getElem?_append_right (by omega), hl, Nat.sub_self] at hy
      obtain rfl : x = y := by simpa using hy
      exact hx
theorem two12 {α : Type} (l : List α) (h : l.length = 2) : ∃ a b, l = [a, b] := by
  match l, h with
  | [a, b], _ => exact ⟨a, b, rfl⟩
theorem os_open {H : Type} {enc : TypeId × Value → H} {W : World} {base : Nat} {spare : Nat → Bool} {held : Bool} {fuel : Nat} {ao : Option Addr} {len cap : Nat} {x : DataW H × List MemPlace}
    (h : DataW.trod enc Tryz.prog W base spare held fuel 22 [.slice ao len cap] = some x) : ∃ zs, len ≤ maxLen ∧ OsC W ao len cap zs := by
  rcases open_slice Tryz.underlying22 h with ⟨hcs, _⟩ | ⟨a, len', cap', m, n, D, Pl, hcs, hb, hl, hm, hmm, _, hi⟩
  · simp only [List.cons.injEq, Value.slice.injEq, and_true] at hcs
    obtain ⟨rfl, rfl, rfl⟩ := hcs
    exact ⟨[], Nat.zero_le _, ⟨rfl, Nat.zero_le _, fun h => absurd h (Nat.lt_irrefl 0), fun z hz => by cases hz⟩, Nat.le_refl _, Nat.zero_le _⟩
  · simp only [List.cons.injEq, Value.slice.injEq, and_true] at hcs
    obtain ⟨rfl, rfl, rfl⟩ := hcs
    have hlm : len ≤ m := by rw [hmm]; split <;> omega
    have ce : Tryz.prog.cellsOf 50 = 2 := by kernel_rfl
    have each : ∀ i, i < min len 12 → ∃ z : Oi, W.cell? (a.add (i * 2)) = some (.slice z.a z.n z.c) ∧ W.cell? ((a.add (i * 2)).add 1) = some (.bool z.st) ∧ z.n ≤ maxLen ∧ PrsAt W z.a z.n z.ds := by
      intro i hi0
      have him : i < m := by omega
      obtain ⟨cs', h1, h2⟩ := hi i him
      rw [ce] at h1
      obtain ⟨_, hlen, hcell⟩ := World.cells?_some h1
      obtain ⟨c0, c1, rfl⟩ := two12 cs' hlen
      obtain ⟨xs, k, hk, hxy, _, hxl, hf⟩ := DataW.trod_struct Tryz.underlying50 h2
      obtain ⟨y0, y1, rfl⟩ := two12 xs hxl
      have e0 := hcell 0 (by omega); have e1 := hcell 1 (by omega)
      have cp : Tryz.prog.cellsOf 47 = 1 := by kernel_rfl
      have cb : Tryz.prog.cellsOf 4 = 1 := by kernel_rfl
      have g0 := hf 0 _ rfl; have g1 := hf 1 _ rfl
      simp [cp, cb] at g0 g1
      obtain ⟨z1, q1, _⟩ := DataW.trod_bool Tryz.underlying4 g1
      have e0' : W.cell? (a.add (i * 2)) = some c0 := by rw [add_add, Nat.add_zero] at e0; simpa using e0
      have e1' : W.cell? ((a.add (i * 2)).add 1) = some c1 := by simpa using e1
      simp only [List.cons.injEq, and_true] at q1
      subst q1
      rcases DataW.trod_slice Tryz.underlying47 g0 with ⟨q0, _⟩ | ⟨a2, len2, cap2, _, _, _, _, q0, _⟩
      · simp only [List.cons.injEq, and_true] at q0
        subst q0
        obtain ⟨ds, h3, h4⟩ := prs_open g0
        exact ⟨⟨_, _, _, ds, z1⟩, e0', e1', h3, h4⟩
      · simp only [List.cons.injEq, and_true] at q0
        subst q0
        obtain ⟨ds, h3, h4⟩ := prs_open g0
        exact ⟨⟨_, _, _, ds, z1⟩, e0', e1', h3, h4⟩
    obtain ⟨zs, hzl, hz⟩ := list_of12 each
    refine ⟨zs, Nat.le_trans hl hm, ⟨hzl, Nat.le_trans hl hm, fun h0 => ?_, fun z hzm => ?_⟩, hl, hm⟩
    · obtain ⟨b, off, spot⟩ := a
      have hc0 := (hz 0 (zs[0]'(by omega)) (List.getElem?_eq_getElem (by omega))).1
      have hspot : spot = none := by
        have := World.cell?_spot hc0
        simpa [Addr.add] using this
      subst hspot
      refine ⟨b, off, rfl, ?_, fun i z hiz => ?_⟩
      · have := World.block_lt_of_cell? W _ hc0
        rwa [add_plain] at this
      · obtain ⟨d0, d1, _⟩ := hz i z hiz
        simp only [add_plain] at d0 d1
        exact ⟨d0, d1⟩
    · obtain ⟨i, hi⟩ := List.getElem?_of_mem hzm
      exact (hz i z hi).2.2
end Go.Proofs.YtefhnjepocbodaaGreatDoor

namespace Go.Proofs.YtefhnjepocbodaaGreatDoor
open Go.RowKit Go.Lib
set_option linter.unusedVariables false

structure CEn where
  x : List UInt8
  c : Nat
  born : Nat
def CEn.en (e : CEn) : En := ⟨bs e.x, .int .i64 e.c, e.born⟩
theorem zv_int (w : World) : (zeroValue 3).run Tryz.prog w = .ok (.int .i64 0) w := by kernel_rfl
/-- A map that counts these names, each at most so often. -/
def SeenM (m : Nat) (N : List (List UInt8)) (j : Nat) (w : World) : Prop :=
  ∃ es ck, MapIs m (es.map CEn.en) ck w ∧ ∀ x, match lookK CEn.x x es with | none => x ∉ N | some e => x ∈ N ∧ 1 ≤ e.c ∧ e.c ≤ j
theorem SeenM.new {m : Nat} {w : World} (h : MapIs m [] 0 w) : SeenM m [] 0 w := ⟨[], 0, h, fun x => by simp [lookK]⟩
theorem SeenM.turn {S : Nat → Prop} {m j : Nat} {N : List (List UInt8)} {w w' : World} (h : SeenM m N j w) (t : Turn S w w') (hS : ¬ S m) : SeenM m N j w' := by
  obtain ⟨es, ck, h1, h2⟩ := h
  exact ⟨es, ck, h1.turn t hS, h2⟩
theorem SeenM.lt {m j : Nat} {N : List (List UInt8)} {w : World} (h : SeenM m N j w) : m < w.heap.size := by obtain ⟨es, ck, h1, h2⟩ := h; exact mapIs_lt h1
theorem SeenM.step {m j : Nat} {N : List (List UInt8)} {w : World} (h : SeenM m N j w) (x : List UInt8) :
    ∃ (c : Nat) (W : World), c ≤ j ∧ (c = 0 ↔ x ∉ N) ∧ (Instr.lookup 52 (.map (some m)) (.string (bs x)) false).run Tryz.prog w = .ok (.int .i64 c) w ∧
      (Instr.mapUpdate 52 (.map (some m)) (.string (bs x)) (.int .i64 ((c : Int) + 1))).run Tryz.prog w = .ok () W ∧ Turn (fun k => k = m) w W ∧
      (Instr.lookup 52 (.map (some m)) (.string (bs x)) false).run Tryz.prog W = .ok (.int .i64 ((c : Int) + 1)) W ∧ SeenM m (if x ∈ N then N else N ++ [x]) (j + 1) W := by
  obtain ⟨es, ck, h1, h2⟩ := h
  have l1 := run_look (P := Tryz.prog) Tryz.underlying52 Tryz.underlying9 (.int .i64 0) zv_int h1 (bs x) false
  rw [lookE_map CEn.x CEn.en (fun _ => rfl)] at l1
  obtain ⟨c, hc⟩ : ∃ c : Nat, c = ((lookK CEn.x x es).map CEn.c).getD 0 := ⟨_, rfl⟩
  have hv : ((((lookK CEn.x x es).map CEn.en).map (·.val)).getD (.int .i64 0)) = .int .i64 c := by
    rw [hc]; cases lookK CEn.x x es <;> rfl
  have hx := h2 x
  have hc1 : c ≤ j ∧ (c = 0 ↔ x ∉ N) := by
    rw [hc]
    cases e : lookK CEn.x x es with
    | none => rw [e] at hx; exact ⟨Nat.zero_le _, by simp only [Option.map_none, Option.getD_none, true_iff]; exact hx⟩
    | some y =>
      rw [e] at hx
      simp only [Option.map_some, Option.getD_some]
      refine ⟨hx.2.2, fun h => ?_, fun h => absurd hx.1 h⟩
      have h6 := hx.2.1
      rw [h] at h6
      exact absurd h6 (by decide)
  have st := run_store (P := Tryz.prog) Tryz.underlying52 Tryz.underlying9 h1 (bs x) (.int .i64 ((c : Int) + 1))
  rw [lookE_map CEn.x CEn.en (fun _ => rfl), setE_map CEn.x CEn.en (fun _ => rfl) x (.int .i64 ((c : Int) + 1)) ck (fun e => { e with c := c + 1 }) ⟨x, c + 1, ck⟩ (by simp [CEn.en]) es (fun a ha e => by simp [CEn.en])] at st
  obtain ⟨es', hes⟩ : ∃ es', es' = putK CEn.x x (fun e => { e with c := c + 1 }) ⟨x, c + 1, ck⟩ es := ⟨_, rfl⟩
  have hlk : ∀ y, lookK CEn.x y es' = if y = x then some (((lookK CEn.x x es).map (fun e => { e with c := c + 1 })).getD ⟨x, c + 1, ck⟩) else lookK CEn.x y es := fun y => by
    rw [hes]; exact lookK_put CEn.x (k := x) (k' := y) (f := fun e => { e with c := c + 1 }) (b := ⟨x, c + 1, ck⟩) (fun _ => rfl) rfl es
  rw [← hes] at st
  obtain ⟨ck', hck⟩ : ∃ ck', ck' = (if ((lookK CEn.x x es).map CEn.en).isSome then ck else ck + 1) := ⟨_, rfl⟩
  rw [← hck] at st
  have m2 : MapIs m (es'.map CEn.en) ck' (World.putMap w m (es'.map CEn.en) ck') := mapIs_put (w := w) (mapIs_lt h1) _ _
  have l2 := run_look (P := Tryz.prog) Tryz.underlying52 Tryz.underlying9 (.int .i64 0) zv_int m2 (bs x) false
  rw [lookE_map CEn.x CEn.en (fun _ => rfl), hlk, if_pos rfl] at l2
  refine ⟨c, World.putMap w m (es'.map CEn.en) ck', hc1.1, hc1.2, ?_, st, turn_put (S := fun k => k = m) rfl _ _, ?_, es', ck', m2, fun y => ?_⟩
  · rw [l1]; simp only [Bool.false_eq_true, if_false]; rw [hv]
  · rw [l2]; simp only [Bool.false_eq_true, if_false]; cases lookK CEn.x x es <;> rfl
  · rw [hlk]
    by_cases e : y = x
    · subst e
      rw [if_pos rfl]
      have e2 : ∃ e, (((lookK CEn.x y es).map (fun e : CEn => { e with c := c + 1 })).getD ⟨y, c + 1, ck⟩) = e ∧ e.c = c + 1 := ⟨_, rfl, by cases lookK CEn.x y es <;> rfl⟩
      obtain ⟨e, e3, e4⟩ := e2
      rw [e3]
      show y ∈ _ ∧ 1 ≤ e.c ∧ e.c ≤ j + 1
      rw [e4]
      refine ⟨?_, by omega, by omega⟩
      split
      · assumption
      · simp
    · rw [if_neg e]
      have hy := h2 y
      cases e3 : lookK CEn.x y es with
      | none =>
        rw [e3] at hy
        show y ∉ _
        split
        · exact hy
        · simp only [List.mem_append, List.mem_singleton]; exact fun h => h.elim hy e
      | some z =>
        rw [e3] at hy
        show y ∈ _ ∧ 1 ≤ z.c ∧ z.c ≤ j + 1
        refine ⟨?_, hy.2.1, by have := hy.2.2; omega⟩
        split
        · exact hy.1
        · simp [hy.1]
theorem uniq_names (P : List Pr) (p : Pr) : (uniqStep P p).map Pr.n = if p.n ∈ P.map Pr.n then P.map Pr.n else P.map Pr.n ++ [p.n] := by
  unfold uniqStep; split <;> simp_all

/-- Two lists that lie apart, as they grow. -/
structure Two (B size : Nat) (w : World) (n : Nat) (xs : List Value) (u v : Value) : Prop where
  l : Sl w B size u n xs
  r : Sl w B size v n xs
  apart : ∀ k, u.ownBlock = some k → v.ownBlock ≠ some k
theorem Two.same {B size n : Nat} {xs : List Value} {u v : Value} {w w' : World} (h : Two B size w n xs u v) (hs : w.heap.size ≤ w'.heap.size) (hb : ∀ k, (u.ownBlock = some k ∨ v.ownBlock = some k) → w'.heap[k]? = w.heap[k]?) : Two B size w' n xs u v :=
  ⟨h.l.same hs fun k hk => hb k (.inl hk), h.r.same hs fun k hk => hb k (.inr hk), h.apart⟩
theorem Two.on {B size n : Nat} {xs : List Value} {u v : Value} {w w' : World} (h : Two B size w n xs u v) (b : Below w.heap.size w w') : Two B size w' n xs u v :=
  h.same b.size fun k hk => b.block k (hk.elim (fun e => (h.l.lt k e).2) (fun e => (h.r.lt k e).2))
/-- Where an append leaves a list: where it was, or in new memory. -/
theorem Ext.at_ {B size n n' : Nat} {xs xs' : List Value} {v v' : Value} {w w' : World} (h : Ext B size w v n xs w' v' n' xs') (k : Nat) (hk : v'.ownBlock = some k) : v.ownBlock = some k ∨ w.heap.size ≤ k := by
  rcases h.alias with ⟨a, c, e1, e2, _⟩ | hf
  · exact .inl (by rw [e1, ← hk, e2]; exact ownBlock_slice a _ _ _ _)
  · exact .inr (hf k hk)
theorem Two.mid {B size n m : Nat} {xs xs' : List Value} {u v u' : Value} {w w1 : World} (h : Two B size w n xs u v) (o : Obj) (e : Ext B size (w.alloc o) u n xs w1 u' m xs') (o2 : Obj) : Sl (w1.alloc o2) B size v n xs :=
  ((h.r.alloc o).same e.grown.size fun k hk => e.grown.block k (by have := (h.r.lt k hk).2; simp; omega) fun h1 => h.apart k h1.symm hk).alloc o2
theorem Two.next {B size n m : Nat} {xs xs' : List Value} {u v u' v' : Value} {w w1 w2 : World} (h : Two B size w n xs u v) (hB : B ≤ w.heap.size) {o o2 : Obj} (e : Ext B size (w.alloc o) u n xs w1 u' m xs') (e2 : Ext B size (w1.alloc o2) v n xs w2 v' m xs') :
    Two B size w2 m xs' u' v' ∧ Turn (fun k => u.ownBlock = some k ∨ v.ownBlock = some k) w w2 ∧ (∀ k, u'.ownBlock = some k → u.ownBlock = some k ∨ w.heap.size ≤ k) ∧ (∀ k, v'.ownBlock = some k → v.ownBlock = some k ∨ w.heap.size ≤ k) := by
  have za : (w.alloc o).heap.size = w.heap.size + 1 := by simp
  have zb : (w1.alloc o2).heap.size = w1.heap.size + 1 := by simp
  have z1 := e.grown.size
  have z2 := e2.grown.size
  have nu : ∀ k, u'.ownBlock = some k → u.ownBlock = some k ∨ w.heap.size ≤ k := fun k hk => (e.at_ k hk).imp id fun h => by omega
  have nv : ∀ k, v'.ownBlock = some k → v.ownBlock = some k ∨ w1.heap.size ≤ k := fun k hk => (e2.at_ k hk).imp id fun h => by omega
  have lu : ∀ k, u'.ownBlock = some k → k < w1.heap.size := fun k hk => (e.now.lt k hk).2
  have lu0 : ∀ k, u.ownBlock = some k → k < w.heap.size := fun k hk => (h.l.lt k hk).2
  have lv0 : ∀ k, v.ownBlock = some k → k < w.heap.size := fun k hk => (h.r.lt k hk).2
  refine ⟨⟨?_, e2.now, fun k hk hk2 => ?_⟩, ⟨?_, ?_, ?_, by omega, fun k hk hne => ?_⟩, nu, fun k hk => (nv k hk).imp id fun h => by omega⟩
  · refine (e.now.alloc o2).same e2.grown.size fun k hk => e2.grown.block k (by have := lu k hk; omega) fun h1 => ?_
    rcases nu k hk with h2 | h2
    · exact h.apart k h2 h1.symm
    · have := lv0 k h1.symm; omega
  · rcases nv k hk2 with h2 | h2
    · rcases nu k hk with h3 | h3
      · exact h.apart k h3 h2
      · have := lv0 k h2; omega
    · have := lu k hk; omega
  · rw [e2.grown.os]; exact e.grown.os
  · rw [e2.grown.tape]; exact e.grown.tape
  · rw [e2.grown.output]; exact e.grown.output
  · have a1 := e2.grown.block k (by omega) (fun h1 => hne (.inr h1.symm))
    have a2 := e.grown.block k (by omega) (fun h1 => hne (.inl h1.symm))
    rw [a1, Below.heap_alloc w1 o2 k (by omega), a2, Below.heap_alloc w o k hk]

/-- A series as it lies. -/
structure Sx where
  n : Int
  v : Value
  ps : List Pr
instance : Inhabited Sx := ⟨⟨0, .slice none 0 0, []⟩⟩
def Sx.sr (q : Sx) : Sr := ⟨q.n, q.ps⟩
def sxc (qs : List Sx) : List Value := qs.flatMap fun q => [.int .i64 q.n, q.v]
theorem sxc_append (a b : List Sx) : sxc (a ++ b) = sxc a ++ sxc b := by simp [sxc]
/-- Series that are told, in memory that is none of an index. -/
structure TdW (B : Nat) (o : Own) (w : World) (v : Value) (qs : List Sx) : Prop where
  sl : Sl w B 2 v qs.length (sxc qs)
  free : ∀ k, v.ownBlock = some k → o k = none
  each : ∀ q ∈ qs, Sl w B 2 q.v q.ps.length (prc q.ps) ∧ ∀ k, q.v.ownBlock = some k → o k = none ∧ v.ownBlock ≠ some k
theorem TdW.step {T : Tag → Prop} {B : Nat} {o o' : Own} {w w' : World} {v : Value} {qs : List Sx} (h : TdW B o w v qs) (s : Stp T o o' w w') : TdW B o' w' v qs :=
  ⟨h.sl.same s.turn.size fun k hk => s.block' (h.free k hk) (h.sl.lt k hk).2, fun k hk => s.none (h.free k hk) (h.sl.lt k hk).2,
    fun q hq => ⟨(h.each q hq).1.same s.turn.size fun k hk => s.block' ((h.each q hq).2 k hk).1 ((h.each q hq).1.lt k hk).2, fun k hk => ⟨s.none ((h.each q hq).2 k hk).1 ((h.each q hq).1.lt k hk).2, ((h.each q hq).2 k hk).2⟩⟩⟩
theorem TdW.push {B base : Nat} {o : Own} {w w' : World} {v v' : Value} {qs : List Sx} {q : Sx} {ob : Obj} (h : TdW B o w v qs) (hl : OwnLt base o w) (hB : B ≤ w.heap.size) (hq : Sl w B 2 q.v q.ps.length (prc q.ps)) (hf : ∀ k, q.v.ownBlock = some k → o k = none ∧ v.ownBlock ≠ some k)
    (e : Ext B 2 (w.alloc ob) v qs.length (sxc qs) w' v' (qs.length + 1) (sxc qs ++ sxc [q])) : TdW B o w' v' (qs ++ [q]) ∧ Turn (fun k => v.ownBlock = some k) w w' := by
  have za : (w.alloc ob).heap.size = w.heap.size + 1 := by simp
  have z1 := e.grown.size
  have keep : ∀ {y : Value} {m : Nat} {ys : List Value}, Sl w B 2 y m ys → (∀ k, y.ownBlock = some k → v.ownBlock ≠ some k) → Sl w' B 2 y m ys := fun {y m ys} hy hd =>
    (hy.alloc ob).same z1 fun k hk => e.grown.block k (by have := (hy.lt k hk).2; omega) fun h1 => hd k hk h1.symm
  have at_ : ∀ {y : Value} {m : Nat} {ys : List Value}, Sl w B 2 y m ys → (∀ k, y.ownBlock = some k → v.ownBlock ≠ some k) → ∀ k, y.ownBlock = some k → v'.ownBlock ≠ some k := fun {y m ys} hy hd k hk h1 => by
    rcases e.at_ k h1 with h2 | h2
    · exact hd k hk h2
    · have := (hy.lt k hk).2; omega
  refine ⟨⟨by rw [sxc_append, List.length_append]; exact e.now, fun k hk => ?_, fun x hx => ?_⟩, ⟨by rw [e.grown.os]; rfl, by rw [e.grown.tape]; rfl, by rw [e.grown.output]; rfl, by omega, fun k hk hne => ?_⟩⟩
  · rcases e.at_ k hk with h2 | h2
    · exact h.free k h2
    · cases e3 : o k with
      | none => rfl
      | some t => have := (hl k t e3).2; omega
  · rcases List.mem_append.1 hx with hx | hx
    · have hd := fun k hk => ((h.each x hx).2 k hk).2
      exact ⟨keep (h.each x hx).1 hd, fun k hk => ⟨((h.each x hx).2 k hk).1, at_ (h.each x hx).1 hd k hk⟩⟩
    · rw [List.mem_singleton] at hx
      subst hx
      exact ⟨keep hq fun k hk => (hf k hk).2, fun k hk => ⟨(hf k hk).1, at_ hq (fun k hk => (hf k hk).2) k hk⟩⟩
  · rw [e.grown.block k (by omega) (fun h1 => hne h1.symm), Below.heap_alloc w ob k hk]

/-- The labels of a series that came in, as they are told. -/
def tellOf (z : Oi) : List Pr := uniqN (sortS (f42 z.ds))
/-- The first ones of those that stay. -/
def growN (zs : List Oi) : Nat → List Sr
  | 0 => []
  | i + 1 => growN zs i ++ (match zs[i]? with | some z => if z.st then [⟨num12 i, tellOf z⟩] else [] | none => [])
theorem growN_at (zs : List Oi) : ∀ (i : Nat) (s : Sr), s ∈ growN zs i → ∃ j z, j < i ∧ zs[j]? = some z ∧ s = ⟨num12 j, tellOf z⟩
  | 0, s, h => by cases h
  | i + 1, s, h => by
    rcases List.mem_append.1 h with h | h
    · obtain ⟨j, z, h1, h2⟩ := growN_at zs i s h
      exact ⟨j, z, by omega, h2⟩
    · cases e : zs[i]? with
      | none => rw [e] at h; cases h
      | some z =>
        rw [e] at h
        simp only at h
        split at h
        · rw [List.mem_singleton] at h; exact ⟨i, z, by omega, e, h⟩
        · cases h
theorem growN_new (zs : List Oi) {i : Nat} (hi : i < 12) : ∀ s ∈ growN zs i, s.n ≠ num12 i := fun s hs e => by
  obtain ⟨j, z, h1, _, rfl⟩ := growN_at zs i s hs
  have := num12_inj (i := j) (j := i) (by omega) hi e
  omega
theorem growN_len (zs : List Oi) : ∀ i, (growN zs i).length ≤ i
  | 0 => Nat.le_refl _
  | i + 1 => by
    have h := growN_len zs i
    have h2 : (match zs[i]? with | some z => if z.st then [(⟨num12 i, tellOf z⟩ : Sr)] else [] | none => []).length ≤ 1 := by
      cases zs[i]? with
      | none => simp
      | some z => simp only; split <;> simp
    show (growN zs i ++ _).length ≤ i + 1
    rw [List.length_append]; omega
end Go.Proofs.YtefhnjepocbodaaGreatDoor

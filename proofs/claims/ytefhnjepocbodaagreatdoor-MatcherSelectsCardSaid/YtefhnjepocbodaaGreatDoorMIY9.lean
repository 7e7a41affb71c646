/- Layer 12: the document's Texts, and the statements' texts, walked. Layer 12: series that are told, only read; the document's Get of them, walked. Layer 12: the document's Values and Names of series that are told, walked. Layer 12: the statements' Lists; are two lists the same. -/
import Derived.Test.YtefhnjepocbodaaGreatDoorMIY7
import Derived.Deep.RegionHeld3
import Derived.Test.YtefhnjepocbodaaGreatDoorMSl3
import Derived.Test.YtefhnjepocbodaaGreatDoorMTC
import Derived.Test.YtefhnjepocbodaaGreatDoorMTG
namespace Go.Proofs.YtefhnjepocbodaaGreatDoor
open Go.RowKit Go.Lib
set_option linter.unusedVariables false

/-- The cells of texts. -/
def stc (l : List (List UInt8)) : List Value := l.map fun s => Value.string (bs s)
theorem stc_len (l : List (List UInt8)) : (stc l).length = l.length := by simp [stc]
theorem stc_append (l m : List (List UInt8)) : stc (l ++ m) = stc l ++ stc m := by simp [stc]
theorem stc_one (l : List (List UInt8)) : ∀ v ∈ stc l, v.oneCell' = true := by
  intro v hv
  simp only [stc, List.mem_map] at hv
  obtain ⟨n, _, rfl⟩ := hv
  rfl
theorem stc_at (l : List (List UInt8)) (i : Nat) (s : List UInt8) (h : l[i]? = some s) : (stc l)[i]? = some (.string (bs s)) := by simp [stc, h]
theorem bi_str : (Tryz.prog.info? 9).map (fun i => (i.zero, i.size, i.bytes)) = some (some (.string ⟨#[]⟩), 1, 16) := by kernel_rfl
/-- The answer is a list of these texts, in new memory. -/
def NewS (w : World) (l : List (List UInt8)) (e : Ending) (w' : World) : Prop := ∃ v, e = .returned v ∧ Sl w' w.heap.size 1 v l.length (stc l) ∧ Below w.heap.size w w'

end Go.Proofs.YtefhnjepocbodaaGreatDoor

namespace Go.Proofs.YtefhnjepocbodaaGreatDoor
open Go.RowKit Go.Lib
set_option linter.unusedVariables false

theorem sxc_at : ∀ (l : List Sx) (i : Nat) (q : Sx), l[i]? = some q → (sxc l)[i * 2]? = some (.int .i64 q.n) ∧ (sxc l)[i * 2 + 1]? = some q.v
  | [], i, z, h => by simp at h
  | y :: l, 0, z, h => by
    simp only [List.getElem?_cons_zero, Option.some.injEq] at h
    subst h
    exact ⟨rfl, rfl⟩
  | y :: l, i + 1, z, h => by
    have ih := sxc_at l i z (by simpa using h)
    rw [show (i + 1) * 2 = i * 2 + 1 + 1 by omega]
    show ([Value.int .i64 y.n, y.v] ++ sxc l)[i * 2 + 1 + 1]? = _ ∧ ([Value.int .i64 y.n, y.v] ++ sxc l)[i * 2 + 1 + 1 + 1]? = _
    simp only [List.cons_append, List.nil_append, List.getElem?_cons_succ]
    exact ih
/-- Series that are told, only read. -/
structure TdR (w : World) (v : Value) (qs : List Sx) : Prop where
  rd : Rd w 2 v qs.length (sxc qs)
  each : ∀ q ∈ qs, Rd w 2 q.v q.ps.length (prc q.ps) ∧ q.ps.length ≤ 10
  len : qs.length ≤ 12
theorem TdR.on {w w' : World} {v : Value} {qs : List Sx} (h : TdR w v qs) (b : Below w.heap.size w w') : TdR w' v qs :=
  ⟨h.rd.on b, fun q hq => ⟨(h.each q hq).1.on b, (h.each q hq).2⟩, h.len⟩
theorem TdW.rd {B : Nat} {o : Own} {w : World} {v : Value} {qs : List Sx} (h : TdW B o w v qs) (hl : qs.length ≤ 12) (hp : ∀ q ∈ qs, q.ps.length ≤ 10) : TdR w v qs :=
  ⟨Rd.of_sl h.sl, fun q hq => ⟨Rd.of_sl (h.each q hq).1, hp q hq⟩, hl⟩
/-- One of them: where it lies, and its labels. -/
theorem TdR.at_ {w : World} {v : Value} {qs : List Sx} (h : TdR w v qs) {i : Nat} {q : Sx} (hq : qs[i]? = some q) : ∃ (g off cap : Nat) (pa : Option Addr) (pc : Nat), v = .slice (some ⟨g, off, none⟩) qs.length cap ∧ q.v = .slice pa q.ps.length pc ∧ g < w.heap.size ∧
    w.cell? ⟨g, off + i * 2, none⟩ = some (.int .i64 q.n) ∧ w.cell? ⟨g, off + i * 2 + 1, none⟩ = some (.slice pa q.ps.length pc) := by
  have hi := (List.getElem?_eq_some_iff.1 hq).1
  obtain ⟨_, a, cap, g, off, rfl, hg, hc⟩ := h.rd
  obtain ⟨rfl, hgl⟩ := hg (by omega)
  obtain ⟨_, pa, pc, _, _, he, _⟩ := (h.each q (List.mem_of_getElem? hq)).1
  obtain ⟨d0, d1⟩ := sxc_at qs i q hq
  refine ⟨g, off, cap, pa, pc, rfl, he, hgl, (hc (i * 2) (by omega)).trans d0, ?_⟩
  rw [Nat.add_assoc, hc (i * 2 + 1) (by omega), d1, he]
theorem Rd.pr_at {w : World} {a : Option Addr} {cap : Nat} {ps : List Pr} (h : Rd w 2 (.slice a ps.length cap) ps.length (prc ps)) {j : Nat} {p : Pr} (hp : ps[j]? = some p) : ∃ g off, a = some ⟨g, off, none⟩ ∧ g < w.heap.size ∧
    w.cell? ⟨g, off + j * 2, none⟩ = some (.string (bs p.n)) ∧ w.cell? ⟨g, off + j * 2 + 1, none⟩ = some (.string (bs p.v)) := by
  have hj := (List.getElem?_eq_some_iff.1 hp).1
  obtain ⟨_, a', cap', g, off, he, hg, hc⟩ := h
  cases he
  obtain ⟨rfl, hgl⟩ := hg (by omega)
  obtain ⟨d0, d1⟩ := prc_at ps j p hp
  exact ⟨g, off, rfl, hgl, (hc (j * 2) (by omega)).trans d0, by rw [Nat.add_assoc]; exact (hc (j * 2 + 1) (by omega)).trans d1⟩
theorem foldB_take {β : Type} (f : List β → Int → Pr → List β) (n : Int) (ps : List Pr) (a : List β) {j : Nat} {p : Pr} (h : ps[j]? = some p) : foldB f n (ps.take (j + 1)) a = f (foldB f n (ps.take j) a) n p := by
  rw [List.take_add_one, h]; exact foldB_snoc f n _ p a
theorem foldD_take {β : Type} (f : List β → Int → Pr → List β) (T : List Sr) {i : Nat} {s : Sr} (h : T[i]? = some s) : foldD f (T.take (i + 1)) = foldB f s.n s.ps (foldD f (T.take i)) := by
  rw [List.take_add_one, h]; exact foldD_snoc f _ s

end Go.Proofs.YtefhnjepocbodaaGreatDoor

namespace Go.Proofs.YtefhnjepocbodaaGreatDoor
open Go.RowKit Go.Lib
set_option linter.unusedVariables false

end Go.Proofs.YtefhnjepocbodaaGreatDoor

namespace Go.Proofs.YtefhnjepocbodaaGreatDoor
open Go.RowKit Go.Lib

set_option maxHeartbeats 1000000 in
set_option maxRecDepth 100000 in
theorem same12_any (v u : Value) (l : List Int) (w : World) (h : Ns w v l) (k : Ns w u l) :
    Calls Tryz.prog 8 #[v, u] w fun e w' => e = .returned (.int .i64 0) ∧ Below w.heap.size w w' := by
  obtain ⟨⟨_, a, cap, g, off, rfl, hg, hc⟩, hl⟩ := h
  obtain ⟨⟨_, b, cap2, g2, off2, rfl, hg2, hc2⟩, _⟩ := k
  obtain ⟨n, hn⟩ : ∃ n, n = l.length := ⟨_, rfl⟩
  rw [← hn] at hg hc hl hg2 hc2 ⊢
  have HN := Lib.hid hn
  have HG := Lib.hid hg; have HC := Lib.hid hc; have HG2 := Lib.hid hg2; have HC2 := Lib.hid hc2
  clear hn hg hc hg2 hc2
  go_enter Tryz.func8, Tryz.ntmps8
  go_wp2_with fail
  go_loopw [13] (fun i' wr => ∃ (i : Nat), i' = .int .i64 i ∧ i ≤ n ∧ Below w.heap.size w wr) (fun i' _ => n - (RowKit.intOf i').toNat)
  case atStart => exact ⟨0, rfl, by omega, Below.refl _ _⟩
  case round =>
    obtain ⟨i, rfl, hi, hb⟩ := hrel
    have HB := Lib.hid hb
    by_cases hlt : i < n
    · obtain ⟨rfl, hgl⟩ := HG.out (by omega)
      obtain ⟨rfl, hgl2⟩ := HG2.out (by omega)
      obtain ⟨x, hx⟩ : ∃ x, l[i]? = some x := ⟨l[i]'(by have := HN.out; omega), List.getElem?_eq_getElem (by have := HN.out; omega)⟩
      have q0 := ((hb.cell (p := ⟨g, off + i, none⟩) hgl).trans (HC.out i (by omega))).trans (ic_at l i x hx)
      have q1 := ((hb.cell (p := ⟨g2, off2 + i, none⟩) hgl2).trans (HC2.out i (by omega))).trans (ic_at l i x hx)
      have hil : (i : Int) < n := by omega
      have hil0 : (0 : Int) ≤ i := by omega
      clear hb hx
      go_wp2
      go_quiet (fail)
      go_wp2
      exact ⟨⟨i + 1, by simp, by omega, below_draw HB.out _⟩, by simp [RowKit.intOf]; omega⟩
    · have hil : ¬ (i : Int) < n := by omega
      clear hb
      go_wp2
      go_ret
      exact ⟨rfl, HB.out⟩

/-- A list within its capacity, of whatever length. -/
def Ncw (w : World) (v : Value) (l : List Int) : Prop := ∃ a cap g off, v = .slice a l.length cap ∧ l.length ≤ cap ∧ cap ≤ 9223372036854775807 ∧ (0 < l.length → a = some ⟨g, off, none⟩ ∧ g < w.heap.size) ∧ ∀ j x, l[j]? = some x → w.cell? ⟨g, off + j, none⟩ = some (.int .i64 x)
/-- Such lists in a slice. -/
def Nls (w : World) (v : Value) (ls : List (List Int)) : Prop := ∃ a cap g off, v = .slice a ls.length cap ∧ (0 < ls.length → a = some ⟨g, off, none⟩ ∧ g < w.heap.size) ∧ ∀ j l, ls[j]? = some l → ∃ x, w.cell? ⟨g, off + j, none⟩ = some x ∧ Ncw w x l
theorem Ncw.on {w w' : World} {v : Value} {l : List Int} (h : Ncw w v l) (b : Below w.heap.size w w') : Ncw w' v l := by
  obtain ⟨a, cap, g, off, hv, hc, hm, h1, h2⟩ := h
  refine ⟨a, cap, g, off, hv, hc, hm, fun hn => ⟨(h1 hn).1, Nat.lt_of_lt_of_le (h1 hn).2 b.size⟩, fun j x hx => ?_⟩
  have hn : 0 < l.length := by have := (List.getElem?_eq_some_iff.1 hx).1; omega
  exact (b.cell (p := ⟨g, off + j, none⟩) (h1 hn).2).trans (h2 j x hx)
/-- What Lists makes of one. -/
def oneQ (l : List Int) : List Int := anyZ [l.take 20]
theorem oneQ_len (l : List Int) : (oneQ l).length ≤ 20 := by
  unfold oneQ anyZ
  have := foldP_len [l.take 20].flatten []
  have h2 : [l.take 20].flatten.length ≤ 20 := by simp; omega
  simp only [List.length_nil, Nat.zero_add] at this
  omega
/-- The lists told, and the program's. -/
structure LsR (w wr : World) (ls : List (List Int)) (p4 p5 : Value) (i : Nat) (xs : List Value) : Prop where
  s4 : Sl wr w.heap.size 1 p4 i xs
  s5 : Sl wr w.heap.size 1 p5 i xs
  apart : ∀ k, p4.ownBlock = some k → p5.ownBlock ≠ some k
  all : ∀ (j : Nat) (x : Value), xs[j]? = some x → ∃ l, ls[j]? = some l ∧ Sl wr w.heap.size 1 x (oneQ l).length (ic (oneQ l)) ∧ ∀ k, x.ownBlock = some k → p4.ownBlock ≠ some k ∧ p5.ownBlock ≠ some k
  below : Below w.heap.size w wr
theorem slice_one' (v : Value) (h : ∃ a n c, v = .slice a n c) : v.oneCell' = true := by
  obtain ⟨a, n, c, rfl⟩ := h; rfl
/-- The answer. -/
def ListsP (w : World) (ls : List (List Int)) (e : Ending) (w' : World) : Prop :=
  ∃ v1 v2 xs, e = .returned (.tuple #[v1, v2]) ∧ LsR w w' ls v1 v2 (min ls.length 5) xs
theorem run_headI (a : Option Addr) (n cap m : Nat) (hm : m ≤ n) (hn : n ≤ cap) (W : World) : (Instr.slice 38 (.slice a n cap) none (some (.int .i64 (m : Int))) none).run Tryz.prog W = .ok (.slice a m cap) W := by
  have hu := run_underlying Tryz.underlying38
  have hz := Tryz.sizeOf3
  have h1 : (m : Int) ≤ cap := by omega
  cases a with
  | none => simp [Instr.slice, Instr.sliceBounds, go_sem, hu, hz, Addr.add, h1]
  | some p => simp [Instr.slice, Instr.sliceBounds, go_sem, hu, hz, Addr.add, h1]

theorem bi_list : (Tryz.prog.info? 39).map (fun i => (i.zero, i.size, i.bytes)) = some (some (.slice none 0 0), 1, 24) := by kernel_rfl
theorem bi_ints : (Tryz.prog.info? 38).map (fun i => (i.zero, i.size, i.bytes)) = some (some (.slice none 0 0), 1, 24) := by kernel_rfl

/-- A step: a value more on either side. -/
theorem LsR.next {w W0 w1 w2 w3 : World} {ls : List (List Int)} {p4 p5 v4 v5 x : Value} {i : Nat} {xs : List Value} {l : List Int} (h : LsR w W0 ls p4 p5 i xs) (hi : xs.length = i) (hl : ls[i]? = some l)
    (hx : Sl w1 W0.heap.size 1 x (oneQ l).length (ic (oneQ l))) (b1 : Below W0.heap.size W0 w1) (e4 : Ext w.heap.size 1 (w1.alloc (.cells #[x] 39)) p4 i xs w2 v4 (i + 1) (xs ++ [x]))
    (e5 : Ext w.heap.size 1 (w2.alloc (.cells #[x] 38)) p5 i xs w3 v5 (i + 1) (xs ++ [x])) : LsR w w3 ls v4 v5 (i + 1) (xs ++ [x]) := by
  have z0 := h.below.size
  have z1 := b1.size
  have za : (w1.alloc (.cells #[x] 39)).heap.size = w1.heap.size + 1 := by simp
  have zb : (w2.alloc (.cells #[x] 38)).heap.size = w2.heap.size + 1 := by simp
  have z2 := e4.grown.size
  have z3 := e5.grown.size
  have l4 : ∀ k, p4.ownBlock = some k → k < W0.heap.size := fun k hk => (h.s4.lt k hk).2
  have l5 : ∀ k, p5.ownBlock = some k → k < W0.heap.size := fun k hk => (h.s5.lt k hk).2
  have n4 : ∀ k, v4.ownBlock = some k → p4.ownBlock = some k ∨ w1.heap.size + 1 ≤ k := fun k hk => by
    rcases e4.alias with ⟨a, c, e1, e2, _⟩ | hf
    · exact .inl (by rw [e1, ← hk, e2]; exact ownBlock_slice a _ _ _ _)
    · have := hf k hk; exact .inr (by omega)
  have n5 : ∀ k, v5.ownBlock = some k → p5.ownBlock = some k ∨ w2.heap.size + 1 ≤ k := fun k hk => by
    rcases e5.alias with ⟨a, c, e1, e2, _⟩ | hf
    · exact .inl (by rw [e1, ← hk, e2]; exact ownBlock_slice a _ _ _ _)
    · have := hf k hk; exact .inr (by omega)
  have l4' : ∀ k, v4.ownBlock = some k → k < w2.heap.size := fun k hk => (e4.now.lt k hk).2
  have lx : ∀ k, x.ownBlock = some k → W0.heap.size ≤ k ∧ k < w1.heap.size := fun k hk => hx.lt k hk
  -- what stands through both appends
  have keep : ∀ {y : Value} {m : Nat} {ys : List Value}, Sl w1 w.heap.size 1 y m ys → (∀ k, y.ownBlock = some k → p4.ownBlock ≠ some k ∧ p5.ownBlock ≠ some k) → Sl w3 w.heap.size 1 y m ys := fun {y m ys} hy hd => by
    have h1 := (hy.alloc (.cells #[x] 39)).same e4.grown.size (fun k hk => e4.grown.block k (by have := (hy.lt k hk).2; omega) (fun e => (hd k hk).1 e.symm))
    exact (h1.alloc (.cells #[x] 38)).same e5.grown.size (fun k hk => e5.grown.block k (by have := (h1.lt k hk).2; omega) (fun e => (hd k hk).2 e.symm))
  refine ⟨?_, e5.now, fun k hk => ?_, fun j y hy => ?_, ?_⟩
  · refine (e4.now.alloc (.cells #[x] 38)).same e5.grown.size (fun k hk => e5.grown.block k (by have := l4' k hk; omega) (fun e => ?_))
    rcases n4 k hk with h4 | h4
    · exact h.apart k h4 e.symm
    · have := l5 k e.symm; omega
  · intro hk5
    rcases n5 k hk5 with h5 | h5
    · rcases n4 k hk with h4 | h4
      · exact h.apart k h4 h5
      · have := l5 k h5; omega
    · have := l4' k hk; omega
  · by_cases hj : j < i
    · rw [List.getElem?_append_left (by omega)] at hy
      obtain ⟨q, hq, hs, hd⟩ := h.all j y hy
      have hyl : ∀ k, y.ownBlock = some k → k < W0.heap.size := fun k hk => (hs.lt k hk).2
      refine ⟨q, hq, keep (hs.on b1) hd, fun k hk => ⟨fun e => ?_, fun e => ?_⟩⟩
      · rcases n4 k e with h4 | h4
        · exact (hd k hk).1 h4
        · have := hyl k hk; omega
      · rcases n5 k e with h5 | h5
        · exact (hd k hk).2 h5
        · have := hyl k hk; omega
    · have hji : j = i := by
        have := (List.getElem?_eq_some_iff.1 hy).1
        simp at this; omega
      subst hji
      rw [List.getElem?_append_right (by omega), hi, Nat.sub_self] at hy
      obtain rfl : x = y := by simpa using hy
      refine ⟨l, hl, keep (hx.mono z0) (fun k hk => ⟨fun e => ?_, fun e => ?_⟩), fun k hk => ⟨fun e => ?_, fun e => ?_⟩⟩
      · have := l4 k e; have := (lx k hk).1; omega
      · have := l5 k e; have := (lx k hk).1; omega
      · rcases n4 k e with h4 | h4
        · have := l4 k h4; have := (lx k hk).1; omega
        · have := (lx k hk).2; omega
      · rcases n5 k e with h5 | h5
        · have := l5 k h5; have := (lx k hk).1; omega
        · have := (lx k hk).2; omega
  · have b2 := (h.below.trans (b1.mono z0)).alloc (by omega) (.cells #[x] 39)
    have b3 := (b2.trans (e4.below (Nat.le_refl _) (by omega))).alloc (by omega) (.cells #[x] 38)
    exact b3.trans (e5.below (Nat.le_refl _) (by omega))

/-- The told ones' slice behind the other one's append. -/
theorem ls5 {w W0 w1 w2 : World} {ls : List (List Int)} {p4 p5 v4 x : Value} {i : Nat} {xs : List Value} (h : LsR w W0 ls p4 p5 i xs) (b1 : Below W0.heap.size W0 w1)
    (e4 : Ext w.heap.size 1 (w1.alloc (.cells #[x] 39)) p4 i xs w2 v4 (i + 1) (xs ++ [x])) : Sl (w2.alloc (.cells #[x] 38)) w.heap.size 1 p5 i xs := by
  have h5 := (h.s5.on b1).alloc (.cells #[x] 39)
  exact (h5.same e4.grown.size (fun k hk => e4.grown.block k (h5.lt k hk).2 (fun e => h.apart k e.symm hk))).alloc _

end Go.Proofs.YtefhnjepocbodaaGreatDoor

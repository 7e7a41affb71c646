/- Layer 7's chunk. -/
import Derived.Test.YtajkleknjjpldaaDoorMO7
import Derived.Laws.Rows
namespace Go.Proofs.YtajkleknjjpldaaDoor
open Go.RowKit Go.Lib

/-- A chunk's cells. -/
structure Ch (A : Array Value) (l : List Xo.Sm) : Prop where
  size : A.size = 241
  good : Xo.Good l
  n : A[240]? = some (.int .i64 l.length)
  at' : ∀ i s, l[i]? = some s → A[i * 2]? = some (.int .i64 s.1) ∧ A[i * 2 + 1]? = some (.int .u64 s.2)
  one : A.all (·.oneCell') = true
/-- A chunk lies in block c. -/
structure ChAt (c : Nat) (A : Array Value) (l : List Xo.Sm) (w : World) : Prop where
  ch : Ch A l
  block : w.heap[c]? = some (.cells A 49 (0, 0))
theorem ChAt.lt {c : Nat} {A : Array Value} {l : List Xo.Sm} {w : World} (h : ChAt c A l w) : c < w.heap.size := (Array.getElem?_eq_some_iff.1 h.block).1
theorem ChAt.cell {c : Nat} {A : Array Value} {l : List Xo.Sm} {w : World} (h : ChAt c A l w) (j : Nat) : w.cell? ⟨c, j, none⟩ = A[j]? := cell_of_row _ _ j _ _ _ h.block
theorem ChAt.n {c : Nat} {A : Array Value} {l : List Xo.Sm} {w : World} (h : ChAt c A l w) : w.cell? ⟨c, 240, none⟩ = some (.int .i64 l.length) := (h.cell 240).trans h.ch.n
theorem ChAt.some {c : Nat} {A : Array Value} {l : List Xo.Sm} {w : World} (h : ChAt c A l w) (j : Nat) (hj : j < 241) : ∃ y, w.cell? ⟨c, j, none⟩ = .some y := ⟨_, by rw [h.cell j, Array.getElem?_eq_getElem (by rw [h.ch.size]; exact hj)]⟩
theorem ChAt.frozen {c : Nat} {A : Array Value} {l : List Xo.Sm} {w : World} (h : ChAt c A l w) (j : Nat) : w.frozen? ⟨c, j, none⟩ = false := by
  simp [World.frozen?, h.block]
theorem ChAt.keep {c : Nat} {A : Array Value} {l : List Xo.Sm} {w w' : World} (h : ChAt c A l w) (k : w'.heap[c]? = w.heap[c]?) : ChAt c A l w' := ⟨h.ch, k.trans h.block⟩

theorem Ch.push {A : Array Value} {l : List Xo.Sm} {s : Xo.Sm} (h : Ch A l) (g : Xo.Good (l ++ [s])) :
    Ch (((A.setIfInBounds (l.length * 2) (.int .i64 s.1)).setIfInBounds (l.length * 2 + 1) (.int .u64 s.2)).setIfInBounds 240 (.int .i64 ((l.length : Int) + 1))) (l ++ [s]) := by
  have hk : l.length < 120 := by have := g.1; simp at this; omega
  refine ⟨by simp [h.size], g, ?_, fun i x hx => ?_, ?_⟩
  · rw [Array.getElem?_setIfInBounds, if_pos rfl, if_pos (by simp [h.size])]
    simp
  · have hi : i < l.length + 1 := by have := (List.getElem?_eq_some_iff.1 hx).1; simpa using this
    by_cases e : i = l.length
    · subst e
      rw [List.getElem?_append_right (by omega), Nat.sub_self] at hx
      simp only [List.getElem?_cons_zero, Option.some.injEq] at hx
      subst hx
      refine ⟨?_, ?_⟩
      · rw [Array.getElem?_setIfInBounds, if_neg (by omega), Array.getElem?_setIfInBounds, if_neg (by omega), Array.getElem?_setIfInBounds, if_pos rfl, if_pos (by rw [h.size]; omega)]
      · rw [Array.getElem?_setIfInBounds, if_neg (by omega), Array.getElem?_setIfInBounds, if_pos rfl, if_pos (by simp [h.size]; omega)]
    · rw [List.getElem?_append_left (by omega)] at hx
      have := h.at' i x hx
      refine ⟨?_, ?_⟩
      · rw [Array.getElem?_setIfInBounds, if_neg (by omega), Array.getElem?_setIfInBounds, if_neg (by omega), Array.getElem?_setIfInBounds, if_neg (by omega)]
        exact this.1
      · rw [Array.getElem?_setIfInBounds, if_neg (by omega), Array.getElem?_setIfInBounds, if_neg (by omega), Array.getElem?_setIfInBounds, if_neg (by omega)]
        exact this.2
  · have h1 := h.one
    rw [Array.all_eq_true_iff_forall_mem] at h1 ⊢
    intro v hv
    rcases Array.mem_or_eq_of_mem_setIfInBounds hv with hv | rfl
    · rcases Array.mem_or_eq_of_mem_setIfInBounds hv with hv | rfl
      · rcases Array.mem_or_eq_of_mem_setIfInBounds hv with hv | rfl
        · exact h1 v hv
        · rfl
      · rfl
    · rfl
theorem ChAt.push {c : Nat} {A : Array Value} {l : List Xo.Sm} {s : Xo.Sm} {w : World} (h : ChAt c A l w) (g : Xo.Good (l ++ [s])) :
    ∃ A', ChAt c A' (l ++ [s]) (((w.setCell ⟨c, l.length * 2, none⟩ (.int .i64 s.1)).setCell ⟨c, l.length * 2 + 1, none⟩ (.int .u64 s.2)).setCell ⟨c, 240, none⟩ (.int .i64 ((l.length : Int) + 1))) :=
  ⟨_, h.ch.push g, heap_setCell_same _ _ _ _ _ _ (heap_setCell_same _ _ _ _ _ _ (heap_setCell_same _ _ _ _ _ _ h.block))⟩

/-- What Append does to a chunk. -/
def App (c : Nat) (l : List Xo.Sm) (s : Xo.Sm) (e : Ending) (w w' : World) : Prop :=
  e = .returned (.int .i64 (Xo.err l s)) ∧ Turn (fun k => k = c) w w' ∧ ∃ A', ChAt c A' (if Xo.err l s = 0 then l ++ [s] else l) w'

set_option maxRecDepth 100000 in
theorem append_chunk (c : Nat) (A : Array Value) (l : List Xo.Sm) (s1 : Int) (s2 : Nat) (w : World) (h : ChAt c A l w) (h0 : -9223372036854775808 ≤ s1) (h1 : s1 ≤ 9223372036854775807) (h2 : s2 < 18446744073709551616) :
    Calls Tryd.prog 13 #[.pointer (.some ⟨c, 0, none⟩), .agg #[.int .i64 s1, .int .u64 s2]] w fun e w' => App c l (s1, s2) e w w' := by
  have hn := h.n
  have hlt := h.lt
  have hl := h.ch.good.1
  have bel : ∀ o, Turn (fun k => k = c) w (w.alloc o) := fun o => (Turn.refl _ _).alloc o
  have kel : ∀ o, ChAt c A l (w.alloc o) := fun o => h.keep (Below.heap_alloc w o c hlt)
  by_cases ha : s1 < 0 ∨ 1099511627776 < s1
  · have he : Xo.err l (s1, s2) = 1 := by unfold Xo.err; rw [if_pos ha]
    unfold App
    rw [he]
    have hna : (decide (s1 < 0)) = true ∨ ((decide (s1 < 0)) = false ∧ (decide (1099511627776 < s1)) = true) := by simp; omega
    rcases hna with hna | ⟨hna, hnb⟩ <;>
    · go_enter Tryd.func13, Tryd.ntmps13
      go_wp2
      go_ret
      exact ⟨rfl, bel _, A, kel _⟩
  · obtain ⟨ha1, ha2⟩ : 0 ≤ s1 ∧ s1 ≤ 1099511627776 := by omega
    have hn0 : (decide (s1 < 0)) = false := by simp; omega
    have hn1 : (decide (1099511627776 < s1)) = false := by simp; omega
    have hbx : ∀ nq, (((w.alloc (.cells #[.int .i64 s1, .int .u64 s2] 27)).drewN nq).cell? ⟨w.heap.size, 0, none⟩ = .some (.int .i64 s1) ∧ ((w.alloc (.cells #[.int .i64 s1, .int .u64 s2] 27)).drewN nq).cell? ⟨w.heap.size, 1, none⟩ = .some (.int .u64 s2)) ∧ ChAt c A l ((w.alloc (.cells #[.int .i64 s1, .int .u64 s2] 27)).drewN nq) := fun nq => by
      have a1 : (w.alloc (.cells #[.int .i64 s1, .int .u64 s2] 27)).cell? ⟨w.heap.size, 0, none⟩ = .some (.int .i64 s1) := by simp [go_sem]
      have a2 : (w.alloc (.cells #[.int .i64 s1, .int .u64 s2] 27)).cell? ⟨w.heap.size, 1, none⟩ = .some (.int .u64 s2) := by simp [go_sem]
      exact ⟨⟨a1, a2⟩, (kel _).keep rfl⟩
    have HBX := Lib.hid hbx
    clear hbx
    rcases List.eq_nil_or_concat l with rfl | ⟨m, p, hm⟩
    · have he : Xo.err [] (s1, s2) = 0 := by unfold Xo.err; rw [if_neg ha]; rfl
      have hg := Lib.hid (Xo.good_snoc h.ch.good h2 he)
      unfold App
      rw [he]
      have hb0 := h.block
      simp only [List.length_nil] at hn
      clear ha he
      go_enter Tryd.func13, Tryd.ntmps13
      go_wp2_with fail
      go_quiet (fail)
      go_wp2_with fail
      obtain ⟨⟨x0, x1⟩, hC⟩ := HBX.out nq
      have T0 := Lib.hid (Turn.of_below (S := fun k => k = c) (below_draw ((Below.refl w.heap.size w).alloc (Nat.le_refl _) (.cells #[.int .i64 s1, .int .u64 s2] 27)) nq))
      obtain ⟨W, hW⟩ : ∃ W, W = (w.alloc (.cells #[.int .i64 s1, .int .u64 s2] 27)).drewN nq := ⟨_, rfl⟩
      rw [← hW] at x0 x1 hC T0 ⊢
      clear hW HBX bel kel hn hlt hb0
      have hn := hC.n
      simp only [List.length_nil] at hn
      obtain ⟨y0, c0⟩ := hC.some 0 (by omega)
      obtain ⟨y1, c1⟩ := hC.some 1 (by omega)
      have z0 := hC.frozen 0
      have z1 := hC.frozen 1
      have z2 := hC.frozen 240
      go_region
      go_wp2_with fail
      go_ret
      obtain ⟨A', hA⟩ := hC.push (s := (s1, s2)) hg.out
      exact ⟨rfl, (((T0.out.setCell ⟨c, 0, none⟩ (.int .i64 s1) rfl).setCell ⟨c, 1, none⟩ (.int .u64 s2) rfl).setCell ⟨c, 240, none⟩ (.int .i64 1) rfl).drew, A', hA.keep rfl⟩
    · rw [List.concat_eq_append] at hm
      have hlast : l[l.length - 1]? = .some p := by rw [hm]; simp
      have hlen : l.length = m.length + 1 := by rw [hm]; simp
      have hpb := h.ch.good.2.1 p (by rw [hm]; simp)
      have herr : Xo.err l (s1, s2) = if s1 ≤ p.1 then 10 else if l.length = 120 then 7 else 0 := by
        unfold Xo.err
        rw [if_neg ha, hm]
        simp
      obtain ⟨p1, p2⟩ := p
      simp only at herr hpb
      have hcell := (h.ch.at' (l.length - 1) (p1, p2) hlast).1
      obtain ⟨j, hj⟩ : ∃ j, j = m.length := ⟨_, rfl⟩
      rw [← hj] at hlen
      clear hj
      rw [hlen] at hcell herr hl
      rw [show j + 1 - 1 = j by omega] at hcell
      replace hn : w.cell? ⟨c, 240, none⟩ = .some (.int .i64 ((j : Int) + 1)) := by rw [hn, hlen]; rfl
      have hkz : (decide ((0 : Int) < (j : Int) + 1)) = true := by simp <;> omega
      have hkw : IntKind.i64.wrap (j : Int) = (j : Int) := by rw [IntKind.wrap_i64]; omega
      have hkb2 : (j : Int) < 120 := by omega
      unfold App
      clear ha hm hlast
      by_cases hord : s1 ≤ p1
      · rw [if_pos hord] at herr
        rw [herr]
        have hdo : (decide (s1 ≤ p1)) = true := by simp; omega
        have hcw := (h.cell (j * 2)).trans hcell
        clear herr hl
        go_enter Tryd.func13, Tryd.ntmps13
        go_wp2_with fail
        go_quiet (fail)
        go_wp2_with fail
        go_ret
        exact ⟨rfl, Turn.of_below (below_draw ((Below.refl _ _).alloc (Nat.le_refl _) _) nq), A, (HBX.out nq).2⟩
      · rw [if_neg hord] at herr
        have hdo : (decide (s1 ≤ p1)) = false := by simp; omega
        have hcw := (h.cell (j * 2)).trans hcell
        by_cases hf : j + 1 = 120
        · rw [if_pos hf] at herr
          rw [herr]
          have hjf : ((j : Int) + 1 == 120) = true := by simp; omega
          clear herr hl hf
          go_enter Tryd.func13, Tryd.ntmps13
          go_wp2_with fail
          go_quiet (fail)
          go_wp2_with fail
          go_ret
          exact ⟨rfl, Turn.of_below (below_draw ((Below.refl _ _).alloc (Nat.le_refl _) _) nq), A, (HBX.out nq).2⟩
        · rw [if_neg hf] at herr
          have hg := Lib.hid (Xo.good_snoc h.ch.good h2 herr)
          rw [herr]
          have hjf : ((j : Int) + 1 == 120) = false := by simp; omega
          have HK := Lib.hid (show (((j : Int) + 1).toNat = j + 1 ∧ (0 : Int) ≤ (j : Int) + 1 ∧ (j : Int) + 1 < 120) ∧ (j + 1) * 2 < 241 ∧ (j + 1) * 2 + 1 < 241 ∧ 240 ≠ (j + 1) * 2 ∧ 240 ≠ (j + 1) * 2 + 1 by omega)
          have HL := Lib.hid hlen
          clear herr hl hf hlen
          go_enter Tryd.func13, Tryd.ntmps13
          go_wp2_with fail
          go_quiet (fail)
          go_wp2_with fail
          obtain ⟨⟨x0, x1⟩, hC⟩ := HBX.out nq
          have T0 := Lib.hid (Turn.of_below (S := fun k => k = c) (below_draw ((Below.refl w.heap.size w).alloc (Nat.le_refl _) (.cells #[.int .i64 s1, .int .u64 s2] 27)) nq))
          obtain ⟨W, hW⟩ : ∃ W, W = (w.alloc (.cells #[.int .i64 s1, .int .u64 s2] 27)).drewN nq := ⟨_, rfl⟩
          rw [← hW] at x0 x1 hC T0 ⊢
          clear hW HBX bel kel hn hlt hcw
          have hn : W.cell? ⟨c, 240, none⟩ = .some (.int .i64 ((j : Int) + 1)) := by rw [hC.n, HL.out]; rfl
          obtain ⟨⟨hk3, hk4, hk5⟩, hd1, hd2, n2a, n2b⟩ := HK.out
          obtain ⟨y0, c0⟩ := hC.some ((j + 1) * 2) hd1
          obtain ⟨y1, c1⟩ := hC.some ((j + 1) * 2 + 1) hd2
          have z0 := hC.frozen ((j + 1) * 2)
          have z1 := hC.frozen ((j + 1) * 2 + 1)
          have z2 := hC.frozen 240
          go_region
          go_wp2_with fail
          go_ret
          obtain ⟨A', hA⟩ := hC.push (s := (s1, s2)) hg.out
          rw [HL.out] at hA
          have ec : (((j + 1 : Nat) : Int) + 1) = (j : Int) + 1 + 1 := by omega
          rw [ec] at hA
          exact ⟨rfl, (((T0.out.setCell ⟨c, (j + 1) * 2, none⟩ (.int .i64 s1) rfl).setCell ⟨c, (j + 1) * 2 + 1, none⟩ (.int .u64 s2) rfl).setCell ⟨c, 240, none⟩ (.int .i64 ((j : Int) + 1 + 1)) rfl).drew, A', hA.keep rfl⟩
end Go.Proofs.YtajkleknjjpldaaDoor

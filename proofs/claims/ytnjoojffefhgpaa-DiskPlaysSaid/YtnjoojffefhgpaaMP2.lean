/- The document's without: a loop over its list that appends. -/
import Derived.Test.YtnjoojffefhgpaaMU0
import Derived.Test.YtnjoojffefhgpaaME5
namespace Go.Proofs.Ytnjoojffefhgpaa
open Go.Conc Go.RowKit
set_option linter.unusedVariables false
/-- The others. -/
def outR (k : ByteArray) (xs : List Rj) : List Rj := xs.filter fun x => decide (x.name ≠ k)
theorem outR_step (k : ByteArray) (xs : List Rj) (j : Nat) (x : Rj) (h : xs[j]? = some x) : outR k (xs.take (j + 1)) = outR k (xs.take j) ++ if x.name ≠ k then [x] else [] := by
  rw [List.take_add_one, h, outR, List.filter_append]
  by_cases hk : x.name = k <;> simp [outR, hk]
theorem outR_le (k : ByteArray) (xs : List Rj) : (outR k xs).length ≤ xs.length := List.length_filter_le _ _
theorem zc_object : (Try.prog.info? 64).map (fun i => (i.zero, i.size, i.bytes)) = some (some (.agg #[.string ByteArray.empty, .string ByteArray.empty, .int .i64 0]), 3, 40) := by kernel_rfl
set_option maxHeartbeats 1000000 in
set_option maxRecDepth 100000 in
theorem rwithout_any (base : Nat) (v u : Value) (xs : List Rj) (k : ByteArray) (w : World) (hs : Sl w base 3 v xs.length (rjc xs)) (hlen : xs.length ≤ 1000) (hu : ∃ a n c, u = .slice a n c) :
    Calls Try.prog 70 #[rbv v u, .string k] w fun e w' => ∃ v', e = .returned (rbv v' u) ∧ Sl w' w.heap.size 3 v' (outR k xs).length (rjc (outR k xs)) ∧ Below w.heap.size w w' := by
  obtain ⟨ua, un, uc, rfl⟩ := hu
  obtain ⟨a, cap, gl, ol, rfl, hlp, hcl⟩ := sl_open3 hs
  obtain ⟨n, hn⟩ : ∃ n, n = xs.length := ⟨_, rfl⟩
  rw [← hn] at hlp hcl hlen ⊢
  have HN := Lib.hid hn
  unfold rbv
  obtain ⟨i0, hi, hz0, hz1, hz2⟩ := info_parts zc_object
  have Hz := Lib.hid hz0; have Hs := Lib.hid hz1; have Hb := Lib.hid hz2; have Hi := Lib.hid hi
  clear hz0 hz1 hz2 hi hn hs
  go_enter Try.func70, Try.ntmps70
  go_wp2_with fail
  obtain ⟨V2, hV2⟩ : ∃ V, V = (w.alloc (.cells #[.slice a n cap, .slice ua un uc] 52)).alloc (.cells #[.slice none 0 0, .slice none 0 0] 52) := ⟨_, rfl⟩
  have z2 : V2.heap.size = w.heap.size + 2 := by rw [hV2]; simp
  have hb0 : V2.heap[w.heap.size]? = some (.cells #[.slice a n cap, .slice ua un uc] 52) := by
    rw [hV2, Below.heap_alloc _ _ _ (by simp)]
    exact heap_alloc_new w _
  have hb1 : V2.heap[w.heap.size + 1]? = some (.cells #[.slice none 0 0, .slice none 0 0] 52) := by
    rw [hV2]
    have := heap_alloc_new (w.alloc (.cells #[.slice a n cap, .slice ua un uc] 52)) (.cells #[.slice none 0 0, .slice none 0 0] 52)
    rw [show (w.alloc (.cells #[.slice a n cap, .slice ua un uc] 52)).heap.size = w.heap.size + 1 by simp] at this
    exact this
  have hfr : ∀ o, V2.frozen? ⟨w.heap.size, o, none⟩ = false ∧ V2.frozen? ⟨w.heap.size + 1, o, none⟩ = false := fun o => ⟨by simp only [World.frozen?, hb0]; rfl, by simp only [World.frozen?, hb1]; rfl⟩
  have hd1 : V2.cell? ⟨w.heap.size, 0, none⟩ = some (.slice a n cap) := by rw [cell_of_row _ _ 0 _ _ _ hb0]; rfl
  have hd0 : V2.cell? ⟨w.heap.size, 1, none⟩ = some (.slice ua un uc) := by rw [cell_of_row _ _ 1 _ _ _ hb0]; rfl
  have hd2 : V2.cell? ⟨w.heap.size + 1, 0, none⟩ = some (.slice none 0 0) := by rw [cell_of_row _ _ 0 _ _ _ hb1]; rfl
  have hd3 : V2.cell? ⟨w.heap.size + 1, 1, none⟩ = some (.slice none 0 0) := by rw [cell_of_row _ _ 1 _ _ _ hb1]; rfl
  have HFR := Lib.hid hfr
  clear hfr hb0 hb1
  rw [← hV2]
  rw [show w.heap.size + 1 + 1 = V2.heap.size by omega]
  have bV : Below w.heap.size w V2 := by rw [hV2]; exact ((Below.refl _ _).alloc (Nat.le_refl _) _).alloc (by simp) _
  have HZ2 := Lib.hid z2
  have HV2 := Lib.hid hV2
  clear z2 hV2
  go_loopw [5, 12] (fun vo vj wr => ∃ j : Nat, vj = .int .i64 j ∧ j ≤ n ∧ Sl wr V2.heap.size 3 vo (outR k (xs.take j)).length (rjc (outR k (xs.take j))) ∧ Below V2.heap.size V2 wr) (fun _ vj _ => n - (RowKit.intOf vj).toNat)
  case atStart => exact ⟨0, rfl, by omega, Sl.lit V2 _ 3 0 #[] _ (Nat.le_refl _) (by decide) rfl, (Below.refl _ _).alloc (Nat.le_refl _) _⟩
  case round =>
    obtain ⟨j, rfl, hj, hso, b7⟩ := hrel
    by_cases hjn : j < n
    · obtain ⟨rfl, hlg, hgl⟩ := hlp (by omega)
      obtain ⟨x, hx⟩ : ∃ x, xs[j]? = some x := ⟨xs[j]'(by have := HN.out; omega), List.getElem?_eq_getElem (by have := HN.out; omega)⟩
      obtain ⟨v0, v1, v2⟩ := rjc_at xs j x hx
      have bw : Below w.heap.size w wr := bV.trans (b7.mono (by have := HZ2.out; omega))
      have q0 := ((bw.cell (p := ⟨gl, ol + j * 3, none⟩) hgl).trans (hcl (j * 3) (by omega))).trans v0
      have q1 := ((bw.cell (p := ⟨gl, ol + (j * 3 + 1), none⟩) hgl).trans (hcl (j * 3 + 1) (by omega))).trans v1
      have q2 := ((bw.cell (p := ⟨gl, ol + (j * 3 + 2), none⟩) hgl).trans (hcl (j * 3 + 2) (by omega))).trans v2
      rw [← Nat.add_assoc] at q1 q2
      have hjn' : (j : Int) < n := by omega
      have hst := outR_step k xs j x hx
      clear hcl hlp v0 v1 v2 
      by_cases hk : x.name = k
      · have hkb : (x.name.toList == k.toList) = true := by rw [hk]; exact beq_self_eq_true _
        go_wp2_with fail
        rw [if_neg (not_not_intro hk), List.append_nil] at hst
        exact ⟨⟨j + 1, by go_num, by omega, by rw [hst]; exact hso.alloc _, b7.alloc b7.size _⟩, by simp [RowKit.intOf]; omega⟩
      · have hkb : (x.name.toList == k.toList) = false := by
          rw [Bool.eq_false_iff]
          intro hb
          exact hk (bytes_same (eq_of_beq hb))
        rw [if_pos hk] at hst
        have hle := outR_le k (xs.take j)
        have hlj : (xs.take j).length ≤ 1000 := by rw [List.length_take]; have := HN.out; omega
        have hsz := b7.size
        have n1 : (outR k (xs.take j)).length + 1 ≤ maxLen := by unfold maxLen; omega
        have n2 : ((outR k (xs.take j)).length + 1) * 40 ≤ 140737488355328 := by omega
        have hone : ∀ y ∈ [Value.string x.name, .string x.data, .int .i64 x.tm], y.oneCell' = true := rjc_one x
        obtain ⟨va, vc, rfl⟩ := hso.slice
        obtain ⟨Y, hY⟩ : ∃ Y, Y = ((wr.alloc (.cells #[.string x.name, .string x.data, .int .i64 x.tm] 64)).alloc (.cells #[.string x.name, .string x.data, .int .i64 x.tm] 64)) := ⟨_, rfl⟩
        have hownY : Sl Y V2.heap.size 3 (.slice va (outR k (xs.take j)).length vc) (outR k (xs.take j)).length (rjc (outR k (xs.take j))) := by rw [hY]; exact (hso.alloc _).alloc _
        have hlit : Sl Y V2.heap.size 3 (.slice (some ⟨wr.heap.size + 1, 0, none⟩) 1 1) 1 [.string x.name, .string x.data, .int .i64 x.tm] := by
          have := Sl.lit (wr.alloc (.cells #[.string x.name, .string x.data, .int .i64 x.tm] 64)) V2.heap.size 3 1 #[.string x.name, .string x.data, .int .i64 x.tm] 64 (by simp; omega) (by decide) rfl
          rw [show (wr.alloc (.cells #[.string x.name, .string x.data, .int .i64 x.tm] 64)).heap.size = wr.heap.size + 1 by simp] at this
          rw [hY]
          exact this
        have hnewY := hlit.cells
        have n3 : V2.heap.size ≤ Y.heap.size := by rw [hY]; show _ ≤ ((wr.alloc _).alloc _).heap.size; simp; omega
        have bY : Below V2.heap.size V2 Y := by rw [hY]; exact ((b7.alloc hsz _).alloc (by simp; omega) _)
        have HY := Lib.hid hY
        rw [hY] at hownY hlit n3
        clear hY hnewY
        go_wp2_with (at_builtin; refine wpList_append_sl2 _ rfl _ _ 50 rfl V2.heap.size 64 i0 (.agg #[.string ByteArray.empty, .string ByteArray.empty, .int .i64 0]) 3 40 Try.underlying50 Hi.out Hz.out Hs.out Hb.out rfl (by decide) _ (outR k (xs.take j)).length _ rfl hownY V2.heap.size _ 1 [.string x.name, .string x.data, .int .i64 x.tm] rfl hlit hone n1 n2 n3 ?_; intro v' w5 hx5; rw [← HY.out] at hx5)
        have n4 : V2.heap.size ≤ Y.heap.size := bY.size
        refine ⟨⟨j + 1, by go_num, by omega, ?_, bY.trans (hx5.below (Nat.le_refl _) n4)⟩, by simp [RowKit.intOf]; omega⟩
        rw [hst, List.length_append, rjc_append]
        exact hx5.now
    · have hjn' : ¬ (j : Int) < n := by omega
      clear hcl hlp
      obtain rfl : j = n := by omega
      rw [List.take_of_length_le (by have := HN.out; omega)] at hso
      obtain ⟨va, vc, rfl⟩ := hso.slice
      have z2 := HZ2.out
      have k0 := (b7.cell (p := ⟨w.heap.size, 0, none⟩) (by simp only; omega)).trans hd1
      have k1 := (b7.cell (p := ⟨w.heap.size, 1, none⟩) (by simp only; omega)).trans hd0
      have k2 := (b7.cell (p := ⟨w.heap.size + 1, 0, none⟩) (by simp only; omega)).trans hd2
      have k3 := (b7.cell (p := ⟨w.heap.size + 1, 1, none⟩) (by simp only; omega)).trans hd3
      have f0 := (b7.frozen (p := ⟨w.heap.size, 0, none⟩) (by simp only; omega)).trans (HFR.out 0).1
      have f2 := (b7.frozen (p := ⟨w.heap.size + 1, 0, none⟩) (by simp only; omega)).trans (HFR.out 0).2
      have f3 := (b7.frozen (p := ⟨w.heap.size + 1, 1, none⟩) (by simp only; omega)).trans (HFR.out 1).2
      clear z2 hd0 hd1 hd2 hd3
      go_wp2_with fail
      have z2 := HZ2.out
      obtain ⟨W6, hW6⟩ : ∃ W6, W6 = ((wr.setCell ⟨w.heap.size, 0, none⟩ (.slice va (outR k xs).length vc)).setCell ⟨w.heap.size + 1, 0, none⟩ (.slice va (outR k xs).length vc)).setCell ⟨w.heap.size + 1, 1, none⟩ (.slice ua un uc) := ⟨_, rfl⟩
      have hne : w.heap.size + 1 ≠ w.heap.size := by omega
      have c0 : W6.cell? ⟨w.heap.size + 1, 0, none⟩ = some (.slice va (outR k xs).length vc) := by
        rw [hW6, cell_setCell_other _ _ _ _ _ (.inr (by simp))]
        exact cell_setCell_same _ _ _ _ (by rw [cell_setCell_other _ _ _ _ _ (.inl hne), k2]; rfl)
      have c1 : W6.cell? ⟨w.heap.size + 1, 1, none⟩ = some (.slice ua un uc) := by
        rw [hW6]
        exact cell_setCell_same _ _ _ _ (by rw [cell_setCell_other _ _ _ _ _ (.inr (by simp)), cell_setCell_other _ _ _ _ _ (.inl hne), k3]; rfl)
      have hs6 : Sl W6 w.heap.size 3 (.slice va (outR k xs).length vc) (outR k xs).length (rjc (outR k xs)) := by
        rw [hW6]
        refine (hso.mono (by omega)).same (by simp [World.setCell]) fun i hi => ?_
        have hlt := (hso.lt i hi).1
        rw [Below.heap_setCell _ _ _ _ (by simp only; omega), Below.heap_setCell _ _ _ _ (by simp only; omega), Below.heap_setCell _ _ _ _ (by simp only; omega)]
      have hb6 : Below w.heap.size w W6 := by
        rw [hW6]
        exact (((bV.trans (b7.mono (by omega))).setCell (p := ⟨w.heap.size, 0, none⟩) (Nat.le_refl _) _).setCell (p := ⟨w.heap.size + 1, 0, none⟩) (by simp only; omega) _).setCell (p := ⟨w.heap.size + 1, 1, none⟩) (by simp only; omega) _
      rw [← hW6]
      refine bodyPost_ret (by simp [results, Try.results70, go_sem, c0, c1]; rfl) rfl ?_
      exact ⟨_, rfl, hs6, hb6⟩
end Go.Proofs.Ytnjoojffefhgpaa

/- The document's disk: Find. The document's disk: drop. -/
import Derived.Test.YtnjoojffefhgpaaMPB
namespace Go.Proofs.Ytnjoojffefhgpaa
open Go.Conc Go.RowKit
set_option linter.unusedVariables false
/-- The document's disk, as a value. -/
def rdv (v : Value) (rm : Int) (u : Value) : Value := .agg #[v, .int .i64 rm, u]
set_option maxHeartbeats 1000000 in
set_option maxRecDepth 100000 in
theorem dfind_any (base : Nat) (v : Value) (rm : Int) (u : Value) (xs : List Rj) (k : ByteArray) (w : World) (hs : Sl w base 3 v xs.length (rjc xs)) (hlen : xs.length ≤ 1000) (hu : ∃ a n c, u = .slice a n c) :
    Calls Try.prog 10 #[rdv v rm u, .string k] w fun e w' => e = .returned (.int .i64 (findR k xs)) ∧ Below w.heap.size w w' := by
  obtain ⟨ua, un, uc, rfl⟩ := hu
  obtain ⟨a, cap, gl, ol, rfl, hlp, hcl⟩ := sl_open3 hs
  obtain ⟨n, hn⟩ : ∃ n, n = xs.length := ⟨_, rfl⟩
  rw [← hn] at hlp hcl hlen ⊢
  have HN := Lib.hid hn
  unfold rdv
  clear hn hs
  go_enter Try.func10, Try.ntmps10
  go_wp2_with fail
  obtain ⟨V, hV⟩ : ∃ V, V = w.alloc (.cells #[.slice a n cap, .int .i64 rm, .slice ua un uc] 30) := ⟨_, rfl⟩
  have bV : Below w.heap.size w V := by rw [hV]; exact (Below.refl _ _).alloc (Nat.le_refl _) _
  rw [← hV]
  go_loopw [10] (fun vj wr => ∃ j : Nat, vj = .int .i64 j ∧ j ≤ n ∧ (∀ i x, i < j → xs[i]? = some x → x.name ≠ k) ∧ Below w.heap.size w wr) (fun vj _ => n - (RowKit.intOf vj).toNat)
  case atStart => exact ⟨0, rfl, by omega, fun i x hi => absurd hi (Nat.not_lt_zero _), bV⟩
  case round =>
    obtain ⟨j, rfl, hj, hno, b7⟩ := hrel
    by_cases hjn : j < n
    · obtain ⟨rfl, hlg, hgl⟩ := hlp (by omega)
      obtain ⟨x, hx⟩ : ∃ x, xs[j]? = some x := ⟨xs[j]'(by have := HN.out; omega), List.getElem?_eq_getElem (by have := HN.out; omega)⟩
      obtain ⟨v0, v1, v2⟩ := rjc_at xs j x hx
      have q0 := ((b7.cell (p := ⟨gl, ol + j * 3, none⟩) hgl).trans (hcl (j * 3) (by omega))).trans v0
      have q1 := ((b7.cell (p := ⟨gl, ol + (j * 3 + 1), none⟩) hgl).trans (hcl (j * 3 + 1) (by omega))).trans v1
      have q2 := ((b7.cell (p := ⟨gl, ol + (j * 3 + 2), none⟩) hgl).trans (hcl (j * 3 + 2) (by omega))).trans v2
      rw [← Nat.add_assoc] at q1 q2
      have hjn' : (j : Int) < n := by omega
      clear hcl hlp v0 v1 v2 hV bV
      by_cases hk : x.name = k
      · have hkb : (x.name == k) = true := (MapKept.bytes_beq _ _).2 hk
        go_wp2_with fail
        subst hk
        go_ret
        refine ⟨?_, ?_⟩
        · show Ending.returned (.int .i64 j) = _
          rw [findR, idxR_drop x.name xs j hno, List.drop_eq_getElem_cons (by have := HN.out; omega)]
          have : xs[j]'(by have := HN.out; omega) = x := by rw [List.getElem?_eq_getElem (by have := HN.out; omega)] at hx; exact Option.some.inj hx
          rw [this]
          simp [idxR]
        · exact b7.alloc b7.size _
      · have hkb : (x.name.toList == k.toList) = false := by
          rw [Bool.eq_false_iff]
          intro hb
          exact hk (bytes_same (eq_of_beq hb))
        go_wp2_with fail
        refine ⟨⟨j + 1, by go_num, by omega, fun i y hi hy => ?_, b7.alloc b7.size _⟩, by simp [RowKit.intOf]; omega⟩
        by_cases hij : i < j
        · exact hno i y hij hy
        · have : i = j := by omega
          subst this
          rw [hx] at hy
          cases hy
          exact hk
    · have hjn' : ¬ (j : Int) < n := by omega
      clear hcl hlp hV bV
      go_wp2_with fail
      go_ret
      refine ⟨?_, b7⟩
      show Ending.returned (.int .i64 (-1)) = _
      rw [findR, idxR_drop k xs j hno, List.drop_eq_nil_of_le (by have := HN.out; omega)]
      rfl
end Go.Proofs.Ytnjoojffefhgpaa

namespace Go.Proofs.Ytnjoojffefhgpaa
open Go.Conc Go.RowKit
set_option linter.unusedVariables false
theorem zc_file : (Try.prog.info? 85).map (fun i => (i.zero, i.size, i.bytes)) = some (some (.agg #[.string ByteArray.empty, .string ByteArray.empty, .int .i64 0]), 3, 40) := by kernel_rfl
set_option maxHeartbeats 1000000 in
set_option maxRecDepth 100000 in
theorem rdrop_any (base : Nat) (v : Value) (rm : Int) (u : Value) (xs : List Rj) (k : ByteArray) (w : World) (hs : Sl w base 3 v xs.length (rjc xs)) (hlen : xs.length ≤ 1000) (hu : ∃ a n c, u = .slice a n c) :
    Calls Try.prog 63 #[rdv v rm u, .string k] w fun e w' => ∃ v', e = .returned (rdv v' rm u) ∧ Sl w' w.heap.size 3 v' (outR k xs).length (rjc (outR k xs)) ∧ Below w.heap.size w w' := by
  obtain ⟨ua, un, uc, rfl⟩ := hu
  obtain ⟨a, cap, gl, ol, rfl, hlp, hcl⟩ := sl_open3 hs
  obtain ⟨n, hn⟩ : ∃ n, n = xs.length := ⟨_, rfl⟩
  rw [← hn] at hlp hcl hlen ⊢
  have HN := Lib.hid hn
  unfold rdv
  obtain ⟨i0, hi, hz0, hz1, hz2⟩ := info_parts zc_file
  have Hz := Lib.hid hz0; have Hs := Lib.hid hz1; have Hb := Lib.hid hz2; have Hi := Lib.hid hi
  clear hz0 hz1 hz2 hi hn hs
  go_enter Try.func63, Try.ntmps63
  go_wp2_with fail
  obtain ⟨V2, hV2⟩ : ∃ V, V = (w.alloc (.cells #[.slice a n cap, .int .i64 rm, .slice ua un uc] 30)).alloc (.cells #[.slice none 0 0, .int .i64 0, .slice none 0 0] 30) := ⟨_, rfl⟩
  have z2 : V2.heap.size = w.heap.size + 2 := by rw [hV2]; simp
  have hb0 : V2.heap[w.heap.size]? = some (.cells #[.slice a n cap, .int .i64 rm, .slice ua un uc] 30) := by
    rw [hV2, Below.heap_alloc _ _ _ (by simp)]
    exact heap_alloc_new w _
  have hb1 : V2.heap[w.heap.size + 1]? = some (.cells #[.slice none 0 0, .int .i64 0, .slice none 0 0] 30) := by
    rw [hV2]
    have := heap_alloc_new (w.alloc (.cells #[.slice a n cap, .int .i64 rm, .slice ua un uc] 30)) (.cells #[.slice none 0 0, .int .i64 0, .slice none 0 0] 30)
    rw [show (w.alloc (.cells #[.slice a n cap, .int .i64 rm, .slice ua un uc] 30)).heap.size = w.heap.size + 1 by simp] at this
    exact this
  have hfr : ∀ o, V2.frozen? ⟨w.heap.size, o, none⟩ = false ∧ V2.frozen? ⟨w.heap.size + 1, o, none⟩ = false := fun o => ⟨by simp only [World.frozen?, hb0]; rfl, by simp only [World.frozen?, hb1]; rfl⟩
  have hd1 : V2.cell? ⟨w.heap.size, 0, none⟩ = some (.slice a n cap) := by rw [cell_of_row _ _ 0 _ _ _ hb0]; rfl
  have hd0m : V2.cell? ⟨w.heap.size, 1, none⟩ = some (.int .i64 rm) := by rw [cell_of_row _ _ 1 _ _ _ hb0]; rfl
  have hd0 : V2.cell? ⟨w.heap.size, 2, none⟩ = some (.slice ua un uc) := by rw [cell_of_row _ _ 2 _ _ _ hb0]; rfl
  have hd2 : V2.cell? ⟨w.heap.size + 1, 0, none⟩ = some (.slice none 0 0) := by rw [cell_of_row _ _ 0 _ _ _ hb1]; rfl
  have hd3m : V2.cell? ⟨w.heap.size + 1, 1, none⟩ = some (.int .i64 0) := by rw [cell_of_row _ _ 1 _ _ _ hb1]; rfl
  have hd3 : V2.cell? ⟨w.heap.size + 1, 2, none⟩ = some (.slice none 0 0) := by rw [cell_of_row _ _ 2 _ _ _ hb1]; rfl
  have HFR := Lib.hid hfr
  clear hfr hb0 hb1
  rw [← hV2]
  rw [show w.heap.size + 1 + 1 = V2.heap.size by omega]
  have bV : Below w.heap.size w V2 := by rw [hV2]; exact ((Below.refl _ _).alloc (Nat.le_refl _) _).alloc (by simp) _
  have HZ2 := Lib.hid z2
  have HV2 := Lib.hid hV2
  clear z2 hV2
  go_loopw [5, 12] (fun vo vj wr => ∃ j : Nat, vj = .int .i64 j ∧ j ≤ n ∧ Sl wr V2.heap.size 3 vo (outR k (xs.take j)).length (rjc (outR k (xs.take j))) ∧ Below V2.heap.size V2 wr) (fun _ vj _ => n - (RowKit.intOf vj).toNat)
  case atStart => exact ⟨0, rfl, by omega, Sl.lit V2 _ 3 0 #[] _ (Nat.le_refl _) (by decide) rfl, (Below.refl _ _).alloc (Nat.le_refl _) _⟩
  case round =>
    obtain ⟨j, rfl, hj, hso, b7⟩ := hrel
    by_cases hjn : j < n
    · obtain ⟨rfl, hlg, hgl⟩ := hlp (by omega)
      obtain ⟨x, hx⟩ : ∃ x, xs[j]? = some x := ⟨xs[j]'(by have := HN.out; omega), List.getElem?_eq_getElem (by have := HN.out; omega)⟩
      obtain ⟨v0, v1, v2⟩ := rjc_at xs j x hx
      have bw : Below w.heap.size w wr := bV.trans (b7.mono (by have := HZ2.out; omega))
      have q0 := ((bw.cell (p := ⟨gl, ol + j * 3, none⟩) hgl).trans (hcl (j * 3) (by omega))).trans v0
      have q1 := ((bw.cell (p := ⟨gl, ol + (j * 3 + 1), none⟩) hgl).trans (hcl (j * 3 + 1) (by omega))).trans v1
      have q2 := ((bw.cell (p := ⟨gl, ol + (j * 3 + 2), none⟩) hgl).trans (hcl (j * 3 + 2) (by omega))).trans v2
      rw [← Nat.add_assoc] at q1 q2
      have hjn' : (j : Int) < n := by omega
      have hst := outR_step k xs j x hx
      clear hcl hlp v0 v1 v2 
      by_cases hk : x.name = k
      · have hkb : (x.name.toList == k.toList) = true := by rw [hk]; exact beq_self_eq_true _
        go_wp2_with fail
        rw [if_neg (not_not_intro hk), List.append_nil] at hst
        exact ⟨⟨j + 1, by go_num, by omega, by rw [hst]; exact hso.alloc _, b7.alloc b7.size _⟩, by simp [RowKit.intOf]; omega⟩
      · have hkb : (x.name.toList == k.toList) = false := by
          rw [Bool.eq_false_iff]
          intro hb
          exact hk (bytes_same (eq_of_beq hb))
        rw [if_pos hk] at hst
        have hle := outR_le k (xs.take j)
        have hlj : (xs.take j).length ≤ 1000 := by rw [List.length_take]; have := HN.out; omega
        have hsz := b7.size
        have n1 : (outR k (xs.take j)).length + 1 ≤ maxLen := by unfold maxLen; omega
        have n2 : ((outR k (xs.take j)).length + 1) * 40 ≤ 140737488355328 := by omega
        have hone : ∀ y ∈ [Value.string x.name, .string x.data, .int .i64 x.tm], y.oneCell' = true := rjc_one x
        obtain ⟨va, vc, rfl⟩ := hso.slice
        obtain ⟨Y, hY⟩ : ∃ Y, Y = ((wr.alloc (.cells #[.string x.name, .string x.data, .int .i64 x.tm] 85)).alloc (.cells #[.string x.name, .string x.data, .int .i64 x.tm] 85)) := ⟨_, rfl⟩
        have hownY : Sl Y V2.heap.size 3 (.slice va (outR k (xs.take j)).length vc) (outR k (xs.take j)).length (rjc (outR k (xs.take j))) := by rw [hY]; exact (hso.alloc _).alloc _
        have hlit : Sl Y V2.heap.size 3 (.slice (some ⟨wr.heap.size + 1, 0, none⟩) 1 1) 1 [.string x.name, .string x.data, .int .i64 x.tm] := by
          have := Sl.lit (wr.alloc (.cells #[.string x.name, .string x.data, .int .i64 x.tm] 85)) V2.heap.size 3 1 #[.string x.name, .string x.data, .int .i64 x.tm] 85 (by simp; omega) (by decide) rfl
          rw [show (wr.alloc (.cells #[.string x.name, .string x.data, .int .i64 x.tm] 85)).heap.size = wr.heap.size + 1 by simp] at this
          rw [hY]
          exact this
        have hnewY := hlit.cells
        have n3 : V2.heap.size ≤ Y.heap.size := by rw [hY]; show _ ≤ ((wr.alloc _).alloc _).heap.size; simp; omega
        have bY : Below V2.heap.size V2 Y := by rw [hY]; exact ((b7.alloc hsz _).alloc (by simp; omega) _)
        have HY := Lib.hid hY
        rw [hY] at hownY hlit n3
        clear hY hnewY
        go_wp2_with (at_builtin; refine wpList_append_sl2 _ rfl _ _ 25 rfl V2.heap.size 85 i0 (.agg #[.string ByteArray.empty, .string ByteArray.empty, .int .i64 0]) 3 40 Try.underlying25 Hi.out Hz.out Hs.out Hb.out rfl (by decide) _ (outR k (xs.take j)).length _ rfl hownY V2.heap.size _ 1 [.string x.name, .string x.data, .int .i64 x.tm] rfl hlit hone n1 n2 n3 ?_; intro v' w5 hx5; rw [← HY.out] at hx5)
        have n4 : V2.heap.size ≤ Y.heap.size := bY.size
        refine ⟨⟨j + 1, by go_num, by omega, ?_, bY.trans (hx5.below (Nat.le_refl _) n4)⟩, by simp [RowKit.intOf]; omega⟩
        rw [hst, List.length_append, rjc_append]
        exact hx5.now
    · have hjn' : ¬ (j : Int) < n := by omega
      clear hcl hlp
      obtain rfl : j = n := by omega
      rw [List.take_of_length_le (by have := HN.out; omega)] at hso
      obtain ⟨va, vc, rfl⟩ := hso.slice
      have z2 := HZ2.out
      have k0 := (b7.cell (p := ⟨w.heap.size, 0, none⟩) (by simp only; omega)).trans hd1
      have k1m := (b7.cell (p := ⟨w.heap.size, 1, none⟩) (by simp only; omega)).trans hd0m
      have k1 := (b7.cell (p := ⟨w.heap.size, 2, none⟩) (by simp only; omega)).trans hd0
      have k2 := (b7.cell (p := ⟨w.heap.size + 1, 0, none⟩) (by simp only; omega)).trans hd2
      have k3m := (b7.cell (p := ⟨w.heap.size + 1, 1, none⟩) (by simp only; omega)).trans hd3m
      have k3 := (b7.cell (p := ⟨w.heap.size + 1, 2, none⟩) (by simp only; omega)).trans hd3
      have f0 := (b7.frozen (p := ⟨w.heap.size, 0, none⟩) (by simp only; omega)).trans (HFR.out 0).1
      have f2 := (b7.frozen (p := ⟨w.heap.size + 1, 0, none⟩) (by simp only; omega)).trans (HFR.out 0).2
      have f3m := (b7.frozen (p := ⟨w.heap.size + 1, 1, none⟩) (by simp only; omega)).trans (HFR.out 1).2
      have f3 := (b7.frozen (p := ⟨w.heap.size + 1, 2, none⟩) (by simp only; omega)).trans (HFR.out 2).2
      clear z2 hd0 hd1 hd2 hd3 hd0m hd3m
      go_wp2_with fail
      have z2 := HZ2.out
      obtain ⟨W6, hW6⟩ : ∃ W6, W6 = (((wr.setCell ⟨w.heap.size, 0, none⟩ (.slice va (outR k xs).length vc)).setCell ⟨w.heap.size + 1, 0, none⟩ (.slice va (outR k xs).length vc)).setCell ⟨w.heap.size + 1, 1, none⟩ (.int .i64 rm)).setCell ⟨w.heap.size + 1, 2, none⟩ (.slice ua un uc) := ⟨_, rfl⟩
      have hne : w.heap.size + 1 ≠ w.heap.size := by omega
      have c0 : W6.cell? ⟨w.heap.size + 1, 0, none⟩ = some (.slice va (outR k xs).length vc) := by
        rw [hW6, cell_setCell_other _ _ _ _ _ (.inr (by simp)), cell_setCell_other _ _ _ _ _ (.inr (by simp))]
        exact cell_setCell_same _ _ _ _ (by rw [cell_setCell_other _ _ _ _ _ (.inl hne), k2]; rfl)
      have c1 : W6.cell? ⟨w.heap.size + 1, 1, none⟩ = some (.int .i64 rm) := by
        rw [hW6, cell_setCell_other _ _ _ _ _ (.inr (by simp))]
        exact cell_setCell_same _ _ _ _ (by rw [cell_setCell_other _ _ _ _ _ (.inr (by simp)), cell_setCell_other _ _ _ _ _ (.inl hne), k3m]; rfl)
      have c2 : W6.cell? ⟨w.heap.size + 1, 2, none⟩ = some (.slice ua un uc) := by
        rw [hW6]
        exact cell_setCell_same _ _ _ _ (by rw [cell_setCell_other _ _ _ _ _ (.inr (by simp)), cell_setCell_other _ _ _ _ _ (.inr (by simp)), cell_setCell_other _ _ _ _ _ (.inl hne), k3]; rfl)
      have hs6 : Sl W6 w.heap.size 3 (.slice va (outR k xs).length vc) (outR k xs).length (rjc (outR k xs)) := by
        rw [hW6]
        refine (hso.mono (by omega)).same (by simp [World.setCell]) fun i hi => ?_
        have hlt := (hso.lt i hi).1
        rw [Below.heap_setCell _ _ _ _ (by simp only; omega), Below.heap_setCell _ _ _ _ (by simp only; omega), Below.heap_setCell _ _ _ _ (by simp only; omega), Below.heap_setCell _ _ _ _ (by simp only; omega)]
      have hb6 : Below w.heap.size w W6 := by
        rw [hW6]
        exact ((((bV.trans (b7.mono (by omega))).setCell (p := ⟨w.heap.size, 0, none⟩) (Nat.le_refl _) _).setCell (p := ⟨w.heap.size + 1, 0, none⟩) (by simp only; omega) _).setCell (p := ⟨w.heap.size + 1, 1, none⟩) (by simp only; omega) _).setCell (p := ⟨w.heap.size + 1, 2, none⟩) (by simp only; omega) _
      rw [← hW6]
      refine bodyPost_ret (by simp [results, Try.results63, go_sem, c0, c1, c2]; rfl) rfl ?_
      exact ⟨_, rfl, hs6, hb6⟩
end Go.Proofs.Ytnjoojffefhgpaa

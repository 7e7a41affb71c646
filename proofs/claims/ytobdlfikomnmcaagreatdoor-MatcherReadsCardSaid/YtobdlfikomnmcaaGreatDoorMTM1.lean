/- Layer 13: a text's parts in a slice: strings.Split at one byte; the library's contracts at texts of plain bytes. -/
import Derived.Test.YtobdlfikomnmcaaGreatDoorML0
import Derived.Test.YtobdlfikomnmcaaGreatDoorMTM0
import Derived.Lib.IndexBytes
import Derived.Lib.SplitLaws
namespace Go.Proofs.YtobdlfikomnmcaaGreatDoor
open Go.RowKit Go.Lib
set_option linter.unusedVariables false

theorem splitK_parts (c : UInt8) : ∀ (n : Nat) (l : List UInt8), l.length ≤ n → Lib.splitK [c] 0 (l.count c) l = parts c l := by
  intro n
  induction n with
  | zero =>
    intro l hl
    obtain rfl : l = [] := by cases l with | nil => rfl | cons _ _ => simp at hl
    rfl
  | succ n ih =>
    intro l hl
    by_cases h : c ∈ l
    · have hge := Lib.indexByte_ge l c
      by_cases hm : Lib.indexByte l c = -1
      · exfalso
        obtain ⟨k, hk⟩ := List.getElem?_of_mem h
        exact Lib.indexByte_none hm k hk
      · obtain ⟨j, hj⟩ : ∃ j : Nat, Lib.indexByte l c = j := ⟨(Lib.indexByte l c).toNat, by omega⟩
        obtain ⟨h1, h2⟩ := Lib.indexByte_some hj
        have hjl : j < l.length := (List.getElem?_eq_some_iff.1 h1).1
        have hnot : c ∉ l.take j := fun hc => by
          obtain ⟨k, hk⟩ := List.getElem?_of_mem hc
          have hkj : k < j := by have := (List.getElem?_eq_some_iff.1 hk).1; simp at this; omega
          rw [List.getElem?_take_of_lt hkj] at hk
          exact h2 k hkj hk
        have hcount : l.count c = (l.drop (j + 1)).count c + 1 := by
          conv => lhs; rw [← List.take_append_drop j l]
          rw [List.count_append, List.count_eq_zero_of_not_mem hnot, List.drop_eq_getElem_cons hjl]
          rw [List.getElem?_eq_getElem hjl] at h1
          rw [Option.some.inj h1, List.count_cons_self, Nat.zero_add]
        have hix : Lib.index l [c] = (j : Int) := by rw [Lib.index_one, hj]
        rw [hcount, Lib.splitK, if_neg (by rw [hix]; simp), hix, parts_index h1 hnot]
        simp only [Int.toNat_natCast, Nat.add_zero, List.length_singleton]
        rw [ih (l.drop (j + 1)) (by rw [List.length_drop]; omega)]
    · rw [List.count_eq_zero_of_not_mem h, parts_none c l h]
      rfl

set_option maxRecDepth 100000 in
set_option maxHeartbeats 1000000 in
theorem split_one (s : List UInt8) (c : UInt8) (w : World) (hs : s.length < 1000000) :
    Calls Tryz.prog 29 #[.string (bs s), .string (bs [c])] w fun e w' =>
      e = .returned (.slice (some ⟨w.heap.size, 0, none⟩) (parts c s).length (parts c s).length) ∧ w' = w.alloc (.cells ((parts c s).map fun p => Value.string (bs p)).toArray 9) := by
  have hcb : Lib.countB (bs s) (bs [c]) = s.count c := by
    show Lib.count (bs s).data.toList (bs [c]).data.toList = _
    simp only [bs]
    exact Lib.count_one c s
  have hle : s.count c ≤ s.length := List.count_le_length
  have hsz : (bs s).size = s.length := by simp [bs, ByteArray.size]
  have c0 := Any.strings_genSplit_core (P := Tryz.prog) (ρ := splt_ren) { splt with } (by kernel_rfl) (bs s) (bs [c]) 0 (-1) (s.count c + 1) w (by rw [hsz]; omega) (by simp [bs, ByteArray.size]) (Nat.zero_le _)
    (fun x cc _ => (index2_any x c _).mono fun e w' ⟨he, hw⟩ => ⟨by rw [he]; congr 2; exact (Lib.index_one _ _).symm, hw.symm⟩)
    ((Any.strings_Count_one (ρ := splt_ren) { splt with } (bs s) c w).mono fun e w' ⟨he, hw⟩ => ⟨by rw [he, hcb]; rfl, hw⟩)
    (by decide) (by decide) (by rw [if_pos (by decide), hcb, hsz]; omega)
  rw [Nat.add_sub_cancel] at c0
  have hd := Lib.splitB_data (bs [c]) 0 (s.count c) (bs s)
  simp only [bs] at hd
  rw [splitK_parts c _ s (Nat.le_refl _)] at hd
  have hlen : (Lib.splitB (bs [c]) 0 (s.count c) (bs s)).length = (parts c s).length := by rw [← hd, List.length_map]; rfl
  have hall := Lib.splitB_all (bs [c]) (by simp [bs, ByteArray.size]) 0 (s.count c) (bs s) hcb
  have hmap : (Lib.splitB (bs [c]) 0 (s.count c) (bs s)).map Value.string = (parts c s).map fun p => Value.string (bs p) := by
    rw [← hd, List.map_map]
    exact List.map_congr_left fun x _ => rfl
  have hcells : Lib.cellsOf (Lib.splitB (bs [c]) 0 (s.count c) (bs s)) (s.count c + 1) = ((parts c s).map fun p => Value.string (bs p)).toArray := by rw [← hall, Lib.cellsOf_full, hmap]
  rw [hcells, hlen, show s.count c + 1 = (parts c s).length by rw [← hlen, hall]] at c0
  have C0 := Lib.hid c0
  clear c0 hd hmap hcells hlen hall
  go_enter Tryz.func29, Tryz.ntmps29
  go_wp2_with fail
  refine C0.out.mono ?_
  rintro e w' ⟨rfl, rfl⟩
  go_wp2
  go_ret
  exact ⟨rfl, rfl⟩
end Go.Proofs.YtobdlfikomnmcaaGreatDoor

/- Layer 13: the document's Check. -/
import Derived.Test.YtobdlfikomnmcaaGreatDoorMTMA
import Derived.Lib.SlBytesConst
namespace Go.Proofs.YtobdlfikomnmcaaGreatDoor
open Go.RowKit Go.Lib
set_option linter.unusedVariables false

def plainB (s : List UInt8) : Bool := s.all (fun b => !sg6.contains b) && decide (s.length ≤ 40)

set_option maxHeartbeats 2000000 in
set_option maxRecDepth 100000 in
theorem plain13_any (s : List UInt8) (w : World) (hs : s.length ≤ 1000000) :
    Calls Tryz.prog 23 #[.string (bs s)] w fun e w' => e = .returned (.bool (plainB s)) ∧ Below w.heap.size w w' := by
  have hz : (bs s).size = s.length := bs_size s
  obtain ⟨N, hN⟩ : ∃ N, N = s.length := ⟨_, rfl⟩
  rw [← hN] at hz hs
  have HN := Lib.hid hN
  clear hN
  have kc := fun (w : World) (C : Array Value) (n c : Nat) => Lib.run_convert_bytes_const (P := Tryz.prog) w 71 5 C n c Tryz.underlying71 Tryz.underlying5
  go_enter Tryz.func23, Tryz.ntmps23
  go_wp2_with fail
  go_loopw [3] (fun i' wr => ∃ i : Nat, i' = .int .i64 i ∧ i ≤ N ∧ Hid (plainB s = ((s.drop i).all (fun b => !sg6.contains b) && decide (s.length ≤ 40)) ∧ Below w.heap.size w wr)) (fun i' _ => N - (intOf i').toNat)
  case atStart => exact ⟨0, rfl, by omega, Lib.hid ⟨rfl, Below.refl _ _⟩⟩
  case round =>
    obtain ⟨W0, rfl⟩ : ∃ W0, W0 = wr := ⟨_, rfl⟩
    obtain ⟨i, rfl, hi, hk⟩ := hrel
    obtain ⟨he, hb⟩ := hk.out
    rcases Nat.lt_or_ge i N with hlt | hge
    · obtain ⟨c, hc⟩ : ∃ c, s.drop i = c :: s.drop (i + 1) := ⟨s[i]'(by have := HN.out; omega), by rw [List.drop_eq_getElem_cons]⟩
      have hg0 : ∀ h, (bs s)[i]'h = c := fun h => by
        have := list_at (bs s) i h
        rw [bs_list, hc] at this
        exact (List.cons.inj this).1.symm
      have hlt2 : (i : Int) < N := by omega
      rw [hc, List.all_cons] at he
      have HE := Lib.hid he
      have HB := Lib.hid hb
      clear hk he hb hc
      go_wp2_with fail
      obtain ⟨W1, hW1⟩ : ∃ W1, W1 = W0.alloc (.cells #[.int .u8 61, .int .u8 33, .int .u8 94, .int .u8 64, .int .u8 44, .int .u8 124] 5 (6, 7)) := ⟨_, rfl⟩
      have hcells : ∀ (j : Nat) (d : UInt8), sg6[j]? = some d → W1.cell? ⟨W0.heap.size, j, none⟩ = some (.int .u8 d.toNat) := by
        intro j d hd
        rw [hW1, World.cell?_alloc_mark]
        have hj : j < 6 := by have := (List.getElem?_eq_some_iff.1 hd).1; simpa [sg6] using this
        have : j = 0 ∨ j = 1 ∨ j = 2 ∨ j = 3 ∨ j = 4 ∨ j = 5 := by omega
        rcases this with rfl | rfl | rfl | rfl | rfl | rfl <;> (cases hd; rfl)
      have HB1 := Lib.hid (show Below w.heap.size w W1 by rw [hW1]; exact HB.out.alloc HB.out.size _)
      rw [← hW1]
      have G0 := Lib.hid (show sg6.contains c = (sg6.drop 0).contains c from rfl)
      clear hW1 HB
      go_loopw [15] (fun j' wr => ∃ j : Nat, j' = .int .i64 j ∧ j ≤ 6 ∧ wr = W1 ∧ Hid (sg6.contains c = (sg6.drop j).contains c)) (fun j' _ => 6 - (intOf j').toNat)
      case atStart => exact ⟨0, rfl, by omega, rfl, G0⟩
      case round =>
        clear G0
        obtain ⟨j, rfl, hj, rfl, hs2⟩ := hrel
        have hs3 := hs2.out
        by_cases hj6 : j < 6
        · have hj6i : (j : Int) < 6 := by omega
          obtain ⟨d, hd⟩ : ∃ d, sg6[j]? = some d := ⟨_, List.getElem?_eq_getElem (by simp [sg6]; omega)⟩
          have cd := hcells j d hd
          have hdd : sg6.drop j = d :: sg6.drop (j + 1) := by
            obtain ⟨hlt', hv⟩ := List.getElem?_eq_some_iff.1 hd
            rw [List.drop_eq_getElem_cons hlt', hv]
          rw [hdd, List.contains_cons] at hs3
          have HC2 := Lib.hid hcells
          clear hs2 hd hdd hcells
          by_cases hcd : c = d
          · have hq : ((c.toNat : Int) == (d.toNat : Int)) = true := by rw [hcd]; simp
            have HP := Lib.hid (show plainB s = false by
              rw [HE.out, hs3, hcd]; simp)
            clear hs3 hcd HE
            go_wp2_with fail
            go_ret
            exact ⟨by rw [HP.out]; rfl, HB1.out⟩
          · have hq : ((c.toNat : Int) == (d.toNat : Int)) = false := by
              rw [beq_eq_false_iff_ne]
              intro e
              exact hcd (UInt8.toNat_inj.1 (by omega))
            have HS3 := Lib.hid (show sg6.contains c = (sg6.drop (j + 1)).contains c by
              rw [hs3]
              have : (c == d) = false := by rw [beq_eq_false_iff_ne]; exact hcd
              rw [this, Bool.false_or])
            clear hs3 hcd
            go_wp2_with fail
            exact ⟨⟨j + 1, by go_num, by omega, trivial, HS3⟩, by simp [intOf]; omega⟩
        · have hj6i : ¬ (j : Int) < 6 := by omega
          have HS3 := Lib.hid (show sg6.contains c = false by
            rw [hs3, show j = 6 by omega]; rfl)
          have HP := Lib.hid (show plainB s = ((s.drop (i + 1)).all (fun b => !sg6.contains b) && decide (s.length ≤ 40)) by
            rw [HE.out, HS3.out]; simp)
          clear hs2 hs3 hcells HE HS3
          go_wp2_with fail
          exact ⟨⟨i + 1, by go_num, by omega, Lib.hid ⟨HP.out, HB1.out⟩⟩, by simp [intOf]; omega⟩
    · have hlt2 : ¬ (i : Int) < N := by omega
      have HK := Lib.hid (show plainB s = decide (s.length ≤ 40) by
        rw [he, show i = s.length by have := HN.out; omega, List.drop_length]; simp)
      have HB := Lib.hid hb
      clear hk he hb
      by_cases h40 : s.length ≤ 40
      · have h40' : (N : Int) ≤ 40 := by have := HN.out; omega
        have HP := Lib.hid (show plainB s = true by rw [HK.out]; simp [h40])
        clear HK h40
        go_wp2_with fail
        go_ret
        exact ⟨by rw [HP.out]; rfl, HB.out⟩
      · have h40' : ¬ (N : Int) ≤ 40 := by have := HN.out; omega
        have HP := Lib.hid (show plainB s = false by rw [HK.out]; simp [h40])
        clear HK h40
        go_wp2_with fail
        go_ret
        exact ⟨by rw [HP.out]; rfl, HB.out⟩
end Go.Proofs.YtobdlfikomnmcaaGreatDoor

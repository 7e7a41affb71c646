/- Layer 6: the document's own names. -/
import Derived.Test.YtmgnmppdeiflbaaDoorLU
namespace Go.Proofs.YtmgnmppdeiflbaaDoor
open Go.RowKit Go.Lib
set_option maxHeartbeats 1000000 in
theorem rletter_any (c : UInt8) (w : World) : Calls Tryd.prog 46 #[.int .u8 c.toNat] w fun e w' => e = .returned (.bool (begB c)) ∧ w = w' := by
  unfold begB
  have hk := c.toNat_lt
  generalize c.toNat = k at hk ⊢
  have h : (97 ≤ k ∧ k ≤ 122) ∨ (122 < k) ∨ (65 ≤ k ∧ k ≤ 90) ∨ (90 < k ∧ k < 95) ∨ (k = 95) ∨ (k = 96) ∨ (k < 65) := by omega
  rcases h with h | h | h | h | h | h | h
  · have e0 := Lib.hid (show (k == 95 || (decide (97 ≤ k) && decide (k ≤ 122)) || (decide (65 ≤ k) && decide (k ≤ 90))) = true by simp; omega)
    have e1 : decide ((97 : Int) ≤ k) = true := by simp; omega
    have e2 : decide ((k : Int) ≤ 122) = true := by simp; omega
    have e3 : decide ((65 : Int) ≤ k) = true := by simp; omega
    have e4 : decide ((k : Int) ≤ 90) = false := by simp; omega
    have e5 : ((k : Int) == 95) = false := by first | (rw [beq_eq_false_iff_ne]; omega) | (rw [beq_iff_eq]; omega)
    rw [e0.out]
    clear h hk e0
    go_enter Tryd.func46, Tryd.ntmps46
    go_wp2
    go_ret
    exact ⟨rfl, rfl⟩
  · have e0 := Lib.hid (show (k == 95 || (decide (97 ≤ k) && decide (k ≤ 122)) || (decide (65 ≤ k) && decide (k ≤ 90))) = false by simp; omega)
    have e1 : decide ((97 : Int) ≤ k) = true := by simp; omega
    have e2 : decide ((k : Int) ≤ 122) = false := by simp; omega
    have e3 : decide ((65 : Int) ≤ k) = true := by simp; omega
    have e4 : decide ((k : Int) ≤ 90) = false := by simp; omega
    have e5 : ((k : Int) == 95) = false := by first | (rw [beq_eq_false_iff_ne]; omega) | (rw [beq_iff_eq]; omega)
    rw [e0.out]
    clear h hk e0
    go_enter Tryd.func46, Tryd.ntmps46
    go_wp2
    go_ret
    exact ⟨rfl, rfl⟩
  · have e0 := Lib.hid (show (k == 95 || (decide (97 ≤ k) && decide (k ≤ 122)) || (decide (65 ≤ k) && decide (k ≤ 90))) = true by simp; omega)
    have e1 : decide ((97 : Int) ≤ k) = false := by simp; omega
    have e2 : decide ((k : Int) ≤ 122) = true := by simp; omega
    have e3 : decide ((65 : Int) ≤ k) = true := by simp; omega
    have e4 : decide ((k : Int) ≤ 90) = true := by simp; omega
    have e5 : ((k : Int) == 95) = false := by first | (rw [beq_eq_false_iff_ne]; omega) | (rw [beq_iff_eq]; omega)
    rw [e0.out]
    clear h hk e0
    go_enter Tryd.func46, Tryd.ntmps46
    go_wp2
    go_ret
    exact ⟨rfl, rfl⟩
  · have e0 := Lib.hid (show (k == 95 || (decide (97 ≤ k) && decide (k ≤ 122)) || (decide (65 ≤ k) && decide (k ≤ 90))) = false by simp; omega)
    have e1 : decide ((97 : Int) ≤ k) = false := by simp; omega
    have e2 : decide ((k : Int) ≤ 122) = true := by simp; omega
    have e3 : decide ((65 : Int) ≤ k) = true := by simp; omega
    have e4 : decide ((k : Int) ≤ 90) = false := by simp; omega
    have e5 : ((k : Int) == 95) = false := by first | (rw [beq_eq_false_iff_ne]; omega) | (rw [beq_iff_eq]; omega)
    rw [e0.out]
    clear h hk e0
    go_enter Tryd.func46, Tryd.ntmps46
    go_wp2
    go_ret
    exact ⟨rfl, rfl⟩
  · have e0 := Lib.hid (show (k == 95 || (decide (97 ≤ k) && decide (k ≤ 122)) || (decide (65 ≤ k) && decide (k ≤ 90))) = true by simp; omega)
    have e1 : decide ((97 : Int) ≤ k) = false := by simp; omega
    have e2 : decide ((k : Int) ≤ 122) = true := by simp; omega
    have e3 : decide ((65 : Int) ≤ k) = true := by simp; omega
    have e4 : decide ((k : Int) ≤ 90) = false := by simp; omega
    have e5 : ((k : Int) == 95) = true := by first | (rw [beq_eq_false_iff_ne]; omega) | (rw [beq_iff_eq]; omega)
    rw [e0.out]
    clear h hk e0
    go_enter Tryd.func46, Tryd.ntmps46
    go_wp2
    go_ret
    exact ⟨rfl, rfl⟩
  · have e0 := Lib.hid (show (k == 95 || (decide (97 ≤ k) && decide (k ≤ 122)) || (decide (65 ≤ k) && decide (k ≤ 90))) = false by simp; omega)
    have e1 : decide ((97 : Int) ≤ k) = false := by simp; omega
    have e2 : decide ((k : Int) ≤ 122) = true := by simp; omega
    have e3 : decide ((65 : Int) ≤ k) = true := by simp; omega
    have e4 : decide ((k : Int) ≤ 90) = false := by simp; omega
    have e5 : ((k : Int) == 95) = false := by first | (rw [beq_eq_false_iff_ne]; omega) | (rw [beq_iff_eq]; omega)
    rw [e0.out]
    clear h hk e0
    go_enter Tryd.func46, Tryd.ntmps46
    go_wp2
    go_ret
    exact ⟨rfl, rfl⟩
  · have e0 := Lib.hid (show (k == 95 || (decide (97 ≤ k) && decide (k ≤ 122)) || (decide (65 ≤ k) && decide (k ≤ 90))) = false by simp; omega)
    have e1 : decide ((97 : Int) ≤ k) = false := by simp; omega
    have e2 : decide ((k : Int) ≤ 122) = true := by simp; omega
    have e3 : decide ((65 : Int) ≤ k) = false := by simp; omega
    have e4 : decide ((k : Int) ≤ 90) = true := by simp; omega
    have e5 : ((k : Int) == 95) = false := by first | (rw [beq_eq_false_iff_ne]; omega) | (rw [beq_iff_eq]; omega)
    rw [e0.out]
    clear h hk e0
    go_enter Tryd.func46, Tryd.ntmps46
    go_wp2
    go_ret
    exact ⟨rfl, rfl⟩
/-- Bytes that a name may have. -/
def okB (c : UInt8) : Bool := begB c || digB c
theorem nameB_ok (c : UInt8) (r : List UInt8) (h : begB c = true) (h40 : (c :: r).length ≤ 40) : nameB (c :: r) = (c :: r).all okB := by
  show (decide (r.length + 1 ≤ 40) && (begB c && r.all fun d => begB d || digB d)) = _
  rw [decide_eq_true (by simpa using h40), List.all_cons, okB, h]
  rfl
theorem all_drop (l : List UInt8) (i : Nat) (c : UInt8) (h : l.drop i = c :: l.drop (i + 1)) : (l.drop i).all okB = ((begB c || digB c) && (l.drop (i + 1)).all okB) := by
  rw [h, List.all_cons]; rfl

set_option maxHeartbeats 2000000 in
set_option maxRecDepth 100000 in
theorem rname_any (l : List UInt8) (w : World) : Calls Tryd.prog 28 #[.string (bs l)] w fun e w' => e = .returned (.bool (nameB l)) ∧ w = w' := by
  have hT := bs_toList
  have hz : (bs l).size = l.length := bs_size l
  by_cases h0 : l = []
  · subst h0
    go_enter Tryd.func28, Tryd.ntmps28
    go_wp2
    go_ret
    exact ⟨rfl, rfl⟩
  · have hb0 : (!l.isEmpty) = true := by simpa using h0
    have hb1 : l.isEmpty = false := by simpa using h0
    have hl0 : 0 < l.length := List.length_pos_iff.2 h0
    by_cases h40 : l.length ≤ 40
    · have h40' : decide ((40 : Int) < l.length) = false := by simp; omega
      have hat := list_at (bs l) 0 (by omega)
      rw [bs_list] at hat
      obtain ⟨c, hc⟩ : ∃ c, c = (bs l)[0]'(by omega) := ⟨_, rfl⟩
      rw [← hc, List.drop_zero] at hat
      have HG0 : ∀ h, (bs l)[0]'h = c := fun _ => hc.symm
      have HBeg := Lib.hid (fun W => rletter_any c W)
      have h0i : (0 : Int) < l.length := by omega
      cases hbc : begB c
      · rw [hbc] at HBeg
        have HN := Lib.hid (show nameB l = false by rw [hat]; show (_ && (begB c && _)) = false; rw [hbc]; simp)
        rw [HN.out]
        clear h0 hbc hat hc
        go_enter Tryd.func28, Tryd.ntmps28
        go_wp2_with fail
        refine (HBeg.out _).mono ?_
        rintro e w1 ⟨rfl, rfl⟩
        go_wp2
        go_ret
        exact ⟨rfl, rfl⟩
      · rw [hbc] at HBeg
        have HN := Lib.hid (show nameB l = l.all okB by rw [hat]; exact nameB_ok c _ hbc (by rw [← hat]; exact h40))
        rw [HN.out]
        clear h0 hbc hat hc HN
        go_enter Tryd.func28, Tryd.ntmps28
        go_wp2_with fail
        refine (HBeg.out _).mono ?_
        rintro e w1 ⟨rfl, rfl⟩
        go_wp2_with fail
        clear HG0 HBeg h0i hl0 h40'
        go_loopw [3] (fun i' wr => ∃ (i : Nat), i' = .int .i64 i ∧ i ≤ l.length ∧ Hid (l.all okB = (l.drop i).all okB) ∧ w = wr) (fun i' _ => l.length - (intOf i').toNat)
        case atStart => exact ⟨0, rfl, by omega, rfl, rfl⟩
        case round =>
          obtain ⟨i, rfl, hi, hn, rfl⟩ := hrel
          by_cases hlt : i < l.length
          · have hat := list_at (bs l) i (by omega)
            rw [bs_list] at hat
            obtain ⟨c, hc⟩ : ∃ c, c = (bs l)[i]'(by omega) := ⟨_, rfl⟩
            rw [← hc] at hat
            have hst := all_drop l i c hat
            have HG : ∀ h, (bs l)[i]'h = c := fun _ => hc.symm
            have hil : (i : Int) < l.length := by omega
            have hw : wrap64 ((i : Int) + 1) = i + 1 := IntWalk.wrap64_in _ ⟨by omega, by omega⟩
            have HBeg := Lib.hid (fun W => rletter_any c W)
            have hd : digB c = (decide (48 ≤ c.toNat) && decide (c.toNat ≤ 57)) := rfl
            rw [hd] at hst
            generalize begB c = b1 at hst HBeg
            have HQ := Lib.hid (hn.out.trans hst)
            clear hst hat hc hn hd
            rcases b1 with _ | _
            · by_cases h48 : c.toNat < 48
              · have e1 : decide ((c.toNat : Int) < 48) = true := by simp; omega
                have HR := Lib.hid (show l.all okB = false by rw [HQ.out, decide_eq_false (by omega : ¬ 48 ≤ c.toNat)]; rfl)
                go_wp2_with fail
                refine (HBeg.out _).mono ?_
                rintro e w1 ⟨rfl, rfl⟩
                go_wp2
                go_ret
                exact ⟨by rw [HR.out]; rfl, rfl⟩
              · have e1 : decide ((c.toNat : Int) < 48) = false := by simp; omega
                by_cases h57 : 57 < c.toNat
                · have e2 : decide ((57 : Int) < c.toNat) = true := by simp; omega
                  have HR := Lib.hid (show l.all okB = false by rw [HQ.out, decide_eq_false (by omega : ¬ c.toNat ≤ 57)]; simp)
                  go_wp2_with fail
                  refine (HBeg.out _).mono ?_
                  rintro e w1 ⟨rfl, rfl⟩
                  go_wp2
                  go_ret
                  exact ⟨by rw [HR.out]; rfl, rfl⟩
                · have e2 : decide ((57 : Int) < c.toNat) = false := by simp; omega
                  have HR := Lib.hid (show l.all okB = (l.drop (i + 1)).all okB by rw [HQ.out, decide_eq_true (by omega : c.toNat ≤ 57), decide_eq_true (by omega : 48 ≤ c.toNat)]; rfl)
                  go_wp2_with fail
                  refine (HBeg.out _).mono ?_
                  rintro e w1 ⟨rfl, rfl⟩
                  go_wp2
                  exact ⟨⟨i + 1, by simp, by omega, HR, trivial⟩, by simp [intOf]; omega⟩
            · have HR := Lib.hid (show l.all okB = (l.drop (i + 1)).all okB by rw [HQ.out]; rfl)
              go_wp2_with fail
              refine (HBeg.out _).mono ?_
              rintro e w1 ⟨rfl, rfl⟩
              go_wp2
              exact ⟨⟨i + 1, by simp, by omega, HR, trivial⟩, by simp [intOf]; omega⟩
          · have hil : ¬ (i : Int) < l.length := by omega
            have hd : l.drop i = [] := List.drop_eq_nil_of_le (by omega)
            have HQ := Lib.hid (hn.out.trans (show (l.drop i).all okB = true by rw [hd]; rfl))
            clear hn hd
            go_wp2
            go_ret
            exact ⟨by rw [HQ.out]; rfl, rfl⟩
    · have h40' : decide ((40 : Int) < l.length) = true := by simp; omega
      have HN := Lib.hid (show nameB l = false by
        cases hn : nameB l
        · rfl
        · exact absurd (nameB_len hn) h40)
      rw [HN.out]
      clear h0
      go_enter Tryd.func28, Tryd.ntmps28
      go_wp2
      go_ret
      exact ⟨rfl, rfl⟩
end Go.Proofs.YtmgnmppdeiflbaaDoor

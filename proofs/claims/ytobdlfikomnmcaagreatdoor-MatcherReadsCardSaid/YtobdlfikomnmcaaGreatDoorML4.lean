/- Layer 6: which labels may be. -/
import Derived.Test.YtobdlfikomnmcaaGreatDoorML3
namespace Go.Proofs.YtobdlfikomnmcaaGreatDoor
open Go.RowKit Go.Lib

def begB (c : UInt8) : Bool := c.toNat == 95 || (decide (97 ≤ c.toNat) && decide (c.toNat ≤ 122)) || (decide (65 ≤ c.toNat) && decide (c.toNat ≤ 90))
def digB (c : UInt8) : Bool := decide (48 ≤ c.toNat) && decide (c.toNat ≤ 57)
def nameB : List UInt8 → Bool
  | [] => false
  | c :: l => decide (l.length + 1 ≤ 40) && (begB c && l.all fun d => begB d || digB d)
def valB (v : List UInt8) : Bool := decide (1 ≤ v.length) && decide (v.length ≤ 40)
def chkR : Option (List UInt8) → List Pr → Bool
  | _, [] => true
  | o, p :: l => nameB p.n && (valB p.v && ((match o with | none => true | some q => decide (q < p.n)) && chkR (some p.n) l))
def aheadB : Option (List UInt8) → List UInt8 → Bool
  | none, _ => true
  | some q, n => decide (q < n)
theorem chkR_nil (o : Option (List UInt8)) : chkR o [] = true := by cases o <;> rfl
theorem chkR_cons (o : Option (List UInt8)) (p : Pr) (l : List Pr) : chkR o (p :: l) = (nameB p.n && (valB p.v && (aheadB o p.n && chkR (some p.n) l))) := by cases o <;> rfl
/-- May these pairs be a set? -/
def chk (l : List Pr) : Bool := decide (1 ≤ l.length) && (decide (l.length ≤ 8) && chkR none l)

set_option maxHeartbeats 1000000 in
theorem beg_any (c : UInt8) (w : World) : Calls Tryz.prog 90 #[.int .u8 c.toNat] w fun e w' => e = .returned (.bool (begB c)) ∧ w = w' := by
  unfold begB
  have hk := c.toNat_lt
  generalize c.toNat = k at hk ⊢
  have h : k = 95 ∨ (97 ≤ k ∧ k ≤ 122) ∨ (65 ≤ k ∧ k ≤ 90) ∨ k < 65 ∨ (90 < k ∧ k < 95) ∨ k = 96 ∨ 122 < k := by omega
  rcases h with h | h | h | h | h | h | h
  · subst h
    go_enter Tryz.func90, Tryz.ntmps90
    go_wp2
    go_ret
    exact ⟨rfl, rfl⟩
  · have e0 := Lib.hid (show (k == 95 || (decide (97 ≤ k) && decide (k ≤ 122)) || (decide (65 ≤ k) && decide (k ≤ 90))) = true by simp; omega)
    have e1 : ((k : Int) == 95) = false := by rw [beq_eq_false_iff_ne]; omega
    obtain ⟨h1, h2⟩ := h
    rw [e0.out]
    go_enter Tryz.func90, Tryz.ntmps90
    go_wp2
    go_ret
    exact ⟨rfl, rfl⟩
  · have e0 := Lib.hid (show (k == 95 || (decide (97 ≤ k) && decide (k ≤ 122)) || (decide (65 ≤ k) && decide (k ≤ 90))) = true by simp; omega)
    have e1 : ((k : Int) == 95) = false := by rw [beq_eq_false_iff_ne]; omega
    have e2 : decide ((97 : Int) ≤ k) = false := by simp; omega
    have e5 : decide ((k : Int) ≤ 90) = true := by simp; omega
    obtain ⟨h1, h2⟩ := h
    rw [e0.out]
    go_enter Tryz.func90, Tryz.ntmps90
    go_wp2
    go_ret
    exact ⟨rfl, rfl⟩
  · have e0 := Lib.hid (show (k == 95 || (decide (97 ≤ k) && decide (k ≤ 122)) || (decide (65 ≤ k) && decide (k ≤ 90))) = false by simp; omega)
    have e1 : ((k : Int) == 95) = false := by rw [beq_eq_false_iff_ne]; omega
    have e2 : decide ((97 : Int) ≤ k) = false := by simp; omega
    have e3 : decide ((65 : Int) ≤ k) = false := by simp; omega
    rw [e0.out]
    go_enter Tryz.func90, Tryz.ntmps90
    go_wp2
    go_ret
    exact ⟨rfl, rfl⟩
  · have e0 := Lib.hid (show (k == 95 || (decide (97 ≤ k) && decide (k ≤ 122)) || (decide (65 ≤ k) && decide (k ≤ 90))) = false by simp; omega)
    have e1 : ((k : Int) == 95) = false := by rw [beq_eq_false_iff_ne]; omega
    have e2 : decide ((97 : Int) ≤ k) = false := by simp; omega
    have e3 : decide ((65 : Int) ≤ k) = true := by simp; omega
    have e4 : decide ((k : Int) ≤ 90) = false := by simp; omega
    rw [e0.out]
    go_enter Tryz.func90, Tryz.ntmps90
    go_wp2
    go_ret
    exact ⟨rfl, rfl⟩
  · subst h
    go_enter Tryz.func90, Tryz.ntmps90
    go_wp2
    go_ret
    exact ⟨rfl, rfl⟩
  · have e0 := Lib.hid (show (k == 95 || (decide (97 ≤ k) && decide (k ≤ 122)) || (decide (65 ≤ k) && decide (k ≤ 90))) = false by simp; omega)
    have e1 : ((k : Int) == 95) = false := by rw [beq_eq_false_iff_ne]; omega
    have e2 : decide ((97 : Int) ≤ k) = true := by simp; omega
    have e3 : decide ((k : Int) ≤ 122) = false := by simp; omega
    have e4 : decide ((65 : Int) ≤ k) = true := by simp; omega
    have e5 : decide ((k : Int) ≤ 90) = false := by simp; omega
    rw [e0.out]
    go_enter Tryz.func90, Tryz.ntmps90
    go_wp2
    go_ret
    exact ⟨rfl, rfl⟩
theorem dig_any (c : UInt8) (w : World) : Calls Tryz.prog 91 #[.int .u8 c.toNat] w fun e w' => e = .returned (.bool (digB c)) ∧ w = w' := by
  unfold digB
  have hk := c.toNat_lt
  generalize c.toNat = k at hk ⊢
  by_cases h1 : 48 ≤ k
  · by_cases h2 : k ≤ 57
    · have e0 := Lib.hid (show (decide (48 ≤ k) && decide (k ≤ 57)) = true by simp; omega)
      have e1 : decide ((k : Int) ≤ 57) = true := by simp; omega
      rw [e0.out]
      go_enter Tryz.func91, Tryz.ntmps91
      go_wp2
      go_ret
      exact ⟨rfl, rfl⟩
    · have e0 := Lib.hid (show (decide (48 ≤ k) && decide (k ≤ 57)) = false by simp; omega)
      have e1 : decide ((k : Int) ≤ 57) = false := by simp; omega
      rw [e0.out]
      go_enter Tryz.func91, Tryz.ntmps91
      go_wp2
      go_ret
      exact ⟨rfl, rfl⟩
  · have e0 := Lib.hid (show (decide (48 ≤ k) && decide (k ≤ 57)) = false by simp; omega)
    have e1 : decide ((48 : Int) ≤ k) = false := by simp; omega
    rw [e0.out]
    go_enter Tryz.func91, Tryz.ntmps91
    go_wp2
    go_ret
    exact ⟨rfl, rfl⟩

/-- The rest of a name, from byte i on. -/
def nameR (l : List UInt8) (i : Nat) : Bool := match l.drop i with
  | [] => true
  | c :: r => if i = 0 then begB c && r.all fun d => begB d || digB d else (c :: r).all fun d => begB d || digB d
theorem nameR_step (l : List UInt8) (i : Nat) (c : UInt8) (h : l.drop i = c :: l.drop (i + 1)) : nameR l i = ((begB c || (decide (i ≠ 0) && digB c)) && nameR l (i + 1)) := by
  have hr : nameR l (i + 1) = (l.drop (i + 1)).all fun d => begB d || digB d := by
    unfold nameR
    cases hd : l.drop (i + 1) with
    | nil => rfl
    | cons d r =>
      show (if i + 1 = 0 then _ else (d :: r).all fun d => begB d || digB d) = _
      rw [if_neg (by omega)]
  rw [hr]
  unfold nameR
  rw [h]
  by_cases hi : i = 0
  · simp [hi]
  · simp [hi]
theorem nameB_R (l : List UInt8) (h1 : l ≠ []) (h2 : l.length ≤ 40) : nameB l = nameR l 0 := by
  cases l with
  | nil => exact absurd rfl h1
  | cons c l =>
    show (decide (l.length + 1 ≤ 40) && (begB c && l.all fun d => begB d || digB d)) = (if 0 = 0 then begB c && l.all fun d => begB d || digB d else (c :: l).all fun d => begB d || digB d)
    rw [decide_eq_true (by simpa using h2), if_pos rfl]
    rfl

set_option maxHeartbeats 2000000 in
set_option maxRecDepth 100000 in
theorem isname_any (l : List UInt8) (w : World) : Calls Tryz.prog 71 #[.string (bs l)] w fun e w' => e = .returned (.bool (nameB l)) ∧ w = w' := by
  have hT := bs_toList
  have hz : (bs l).size = l.length := bs_size l
  by_cases h0 : l = []
  · subst h0
    go_enter Tryz.func71, Tryz.ntmps71
    go_wp2
    go_ret
    exact ⟨rfl, rfl⟩
  · have hb0 : (!l.isEmpty) = true := by simpa using h0
    have hb1 : l.isEmpty = false := by simpa using h0
    by_cases h40 : l.length ≤ 40
    · have HB := Lib.hid (nameB_R l h0 h40)
      have h40' : decide ((40 : Int) < l.length) = false := by simp; omega
      rw [HB.out]
      have h0' := Lib.hid h0
      clear h0 HB
      go_enter Tryz.func71, Tryz.ntmps71
      go_wp2_with fail
      go_loopw [14] (fun i' wr => ∃ (i : Nat), i' = .int .i64 i ∧ i ≤ l.length ∧ Hid (nameR l 0 = nameR l i) ∧ w = wr) (fun i' _ => l.length - (intOf i').toNat)
      case atStart => exact ⟨0, rfl, by omega, rfl, rfl⟩
      case round =>
        obtain ⟨i, rfl, hi, hn, rfl⟩ := hrel
        by_cases hlt : i < l.length
        · have hat := list_at (bs l) i (by omega)
          rw [bs_list] at hat
          obtain ⟨c, hc⟩ : ∃ c, c = (bs l)[i]'(by omega) := ⟨_, rfl⟩
          rw [← hc] at hat
          have hst := nameR_step l i c hat
          have HG : ∀ h, (bs l)[i]'h = c := fun _ => hc.symm
          have hil : (i : Int) < l.length := by omega
          have HBeg := Lib.hid (fun W => beg_any c W)
          have HDig := Lib.hid (fun W => dig_any c W)
          generalize begB c = b1 at hst HBeg
          generalize digB c = b2 at hst HDig
          have HQ := Lib.hid (hn.out.trans hst)
          clear hst hat hc hn
          rcases b1 with _ | _
          · rcases b2 with _ | _
            · by_cases hi0 : i = 0
              · subst hi0
                go_wp2_with fail
                refine (HBeg.out _).mono ?_
                rintro e w1 ⟨rfl, rfl⟩
                go_wp2
                go_ret
                exact ⟨by rw [HQ.out]; rfl, rfl⟩
              · have hi1 : ((i : Int) == 0) = false := by rw [beq_eq_false_iff_ne]; omega
                go_wp2_with fail
                refine (HBeg.out _).mono ?_
                rintro e w1 ⟨rfl, rfl⟩
                go_wp2_with fail
                refine (HDig.out _).mono ?_
                rintro e w1 ⟨rfl, rfl⟩
                go_wp2
                go_ret
                exact ⟨by rw [HQ.out]; simp, rfl⟩
            · by_cases hi0 : i = 0
              · subst hi0
                go_wp2_with fail
                refine (HBeg.out _).mono ?_
                rintro e w1 ⟨rfl, rfl⟩
                go_wp2
                go_ret
                exact ⟨by rw [HQ.out]; rfl, rfl⟩
              · have hi1 : ((i : Int) == 0) = false := by rw [beq_eq_false_iff_ne]; omega
                have hq := HQ.out
                rw [decide_eq_true (show i ≠ 0 from hi0)] at hq
                have HQ2 := Lib.hid hq
                clear hq HQ
                go_wp2_with fail
                refine (HBeg.out _).mono ?_
                rintro e w1 ⟨rfl, rfl⟩
                go_wp2_with fail
                refine (HDig.out _).mono ?_
                rintro e w1 ⟨rfl, rfl⟩
                go_wp2
                exact ⟨⟨i + 1, by simp, by omega, by have := HQ2.out; show _ = _; simpa using this, trivial⟩, by simp [intOf]; omega⟩
          · go_wp2_with fail
            refine (HBeg.out _).mono ?_
            rintro e w1 ⟨rfl, rfl⟩
            go_wp2
            exact ⟨⟨i + 1, by simp, by omega, by have := HQ.out; show _ = _; simpa using this, trivial⟩, by simp [intOf]; omega⟩
        · have hil : ¬ (i : Int) < l.length := by omega
          have hd : l.drop i = [] := List.drop_eq_nil_of_le (by omega)
          have HQ := Lib.hid (hn.out.trans (show nameR l i = true by unfold nameR; rw [hd]))
          clear hn hd
          go_wp2
          go_ret
          exact ⟨by rw [HQ.out]; rfl, rfl⟩
    · have HB := Lib.hid (show nameB l = false by
        cases l with
        | nil => rfl
        | cons c l =>
          show (decide (l.length + 1 ≤ 40) && _) = false
          rw [decide_eq_false (by simpa using h40)]; rfl)
      have h40' : decide ((40 : Int) < l.length) = true := by simp; omega
      clear h0
      go_enter Tryz.func71, Tryz.ntmps71
      go_wp2
      go_ret
      exact ⟨by rw [HB.out]; rfl, rfl⟩
end Go.Proofs.YtobdlfikomnmcaaGreatDoor

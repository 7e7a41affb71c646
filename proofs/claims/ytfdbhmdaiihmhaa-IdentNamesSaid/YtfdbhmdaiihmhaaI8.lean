/- Layer 8: the statements IdentRises and IdentBack and IdentOne, walked. -/
import Derived.Test.YtfdbhmdaiihmhaaI7
namespace Go.Proofs.Ytfdbhmdaiihmhaa
open Go.RowKit Go.Lib

/-- Can a name be made of these? -/
def mk2 (t s : Int) : Option (List UInt8) := if 0 ≤ t ∧ t < 1099511627776 ∧ 0 ≤ s ∧ s < 1099511627776 then some (Idn.nam t.toNat s.toNat) else none
def mk2V : Option (List UInt8) → Value
  | none => .tuple #[.string (bs []), .int .i64 1]
  | some l => .tuple #[.string (bs l), .int .i64 0]
theorem mk2_any (t s : Int) (w : World) : Calls Try.prog 22 #[.int .i64 t, .int .i64 s] w fun e w' => e = .returned (mk2V (mk2 t s)) ∧ Below w.heap.size w w' := by
  unfold mk2
  split
  · rename_i h
    obtain ⟨t, rfl⟩ := Int.eq_ofNat_of_zero_le h.1
    obtain ⟨s, rfl⟩ := Int.eq_ofNat_of_zero_le h.2.2.1
    exact make_ok t s w (by omega) (by omega)
  · refine (make_no t s w (by omega)).mono ?_
    rintro e w' ⟨rfl, rfl⟩
    exact ⟨rfl, Below.refl _ _⟩

theorem mk2_some {t s : Int} {l : List UInt8} (h : mk2 t s = some l) : (0 ≤ t ∧ t < 1099511627776 ∧ 0 ≤ s ∧ s < 1099511627776) ∧ l = Idn.nam t.toNat s.toNat := by
  unfold mk2 at h
  split at h
  · rename_i k
    exact ⟨k, (Option.some.inj h).symm⟩
  · cases h
theorem less_lt : ∀ (a b : List UInt8), Op.bytesLess a b = true ↔ a < b
  | [], [] => by simp [Op.bytesLess]
  | [], _ :: _ => by simp [Op.bytesLess]
  | _ :: _, [] => by simp [Op.bytesLess]
  | x :: a, y :: b => by
    rw [Op.bytesLess, List.cons_lt_cons_iff]
    simp [less_lt a b]
theorem less_true {a b : List UInt8} (h : a < b) : Op.bytesLess a b = true := (less_lt a b).2 h
theorem less_false {a b : List UInt8} (h : ¬ a < b) : Op.bytesLess a b = false := by
  rw [Bool.eq_false_iff]
  exact fun e => h ((less_lt a b).1 e)

set_option maxHeartbeats 2000000 in
set_option maxRecDepth 100000 in
theorem rises_any (a b c d : Int) (w : World) :
    Calls Try.prog 7 #[.int .i64 a, .int .i64 b, .int .i64 c, .int .i64 d] w fun e w' => e = .returned (.bool true) ∧ Below w.heap.size w w' := by
  have hT := bs_toList
  have M1 := Lib.hid (fun W => mk2_any a b W)
  have M2 := Lib.hid (fun W => mk2_any c d W)
  obtain ⟨p, hp⟩ : ∃ p, p = mk2 a b := ⟨_, rfl⟩
  obtain ⟨q, hq⟩ : ∃ q, q = mk2 c d := ⟨_, rfl⟩
  rw [← hp] at M1
  rw [← hq] at M2
  cases p with
  | none =>
    unfold mk2V at M1
    cases q with
    | none =>
      unfold mk2V at M2
      clear hp hq
      go_enter Try.func7, Try.ntmps7
      go_wp2_with fail
      with_reducible refine (M1.out _).mono ?_
      rintro e w1 ⟨rfl, b1⟩
      go_wp2_with fail
      with_reducible refine (M2.out _).mono ?_
      rintro e w2 ⟨rfl, b2⟩
      go_wp2_with fail
      refine (iawake_any _).mono ?_
      rintro e w3 ⟨rfl, b3⟩
      go_wp2_with fail
      refine (iawake_any _).mono ?_
      rintro e w4 ⟨rfl, b4⟩
      go_wp2
      go_ret
      exact ⟨rfl, below_step (below_step (below_step b1 b2) b3) b4⟩
    | some y =>
      unfold mk2V at M2
      clear hp hq
      go_enter Try.func7, Try.ntmps7
      go_wp2_with fail
      with_reducible refine (M1.out _).mono ?_
      rintro e w1 ⟨rfl, b1⟩
      go_wp2_with fail
      with_reducible refine (M2.out _).mono ?_
      rintro e w2 ⟨rfl, b2⟩
      go_wp2_with fail
      refine (iawake_any _).mono ?_
      rintro e w3 ⟨rfl, b3⟩
      go_wp2_with fail
      refine (iawake_any _).mono ?_
      rintro e w4 ⟨rfl, b4⟩
      go_wp2
      go_ret
      exact ⟨rfl, below_step (below_step (below_step b1 b2) b3) b4⟩
  | some x =>
    unfold mk2V at M1
    cases q with
    | none =>
      unfold mk2V at M2
      clear hp hq
      go_enter Try.func7, Try.ntmps7
      go_wp2_with fail
      with_reducible refine (M1.out _).mono ?_
      rintro e w1 ⟨rfl, b1⟩
      go_wp2_with fail
      with_reducible refine (M2.out _).mono ?_
      rintro e w2 ⟨rfl, b2⟩
      go_wp2_with fail
      refine (iawake_any _).mono ?_
      rintro e w3 ⟨rfl, b3⟩
      go_wp2_with fail
      refine (iawake_any _).mono ?_
      rintro e w4 ⟨rfl, b4⟩
      go_wp2
      go_ret
      exact ⟨rfl, below_step (below_step (below_step b1 b2) b3) b4⟩
    | some y =>
      unfold mk2V at M2
      have key : (a < c ∧ decide (a < c) = true ∧ (a == c) = false ∧ Op.bytesLess x y = true ∧ (x == y) = false) ∨ (c < a ∧ decide (a < c) = false ∧ (a == c) = false ∧ Op.bytesLess x y = false ∧ (x == y) = false) ∨ (a = c ∧ (b < d ∧ decide (b < d) = true ∧ (b == d) = false ∧ Op.bytesLess x y = true ∧ (x == y) = false ∨ d < b ∧ decide (b < d) = false ∧ (b == d) = false ∧ Op.bytesLess x y = false ∧ (x == y) = false ∨ b = d ∧ Op.bytesLess x y = false ∧ (x == y) = true)) := by
        obtain ⟨ha, rfl⟩ := mk2_some hp.symm
        obtain ⟨hc, rfl⟩ := mk2_some hq.symm
        have hl := Idn.nam_lt a.toNat b.toNat c.toNat d.toNat (by omega) (by omega) (by omega) (by omega)
        have he := Idn.nam_eq a.toNat b.toNat c.toNat d.toNat (by omega) (by omega) (by omega) (by omega)
        by_cases h1 : a < c
        · exact .inl ⟨h1, by simpa using h1, by simp; omega, less_true (hl.2 (by omega)), beq_eq_false_iff_ne.2 (fun e => by have := he.1 e; omega)⟩
        · by_cases h2 : c < a
          · exact .inr (.inl ⟨h2, by simp; omega, by simp; omega, less_false (fun e => by have := hl.1 e; omega), beq_eq_false_iff_ne.2 (fun e => by have := he.1 e; omega)⟩)
          · refine .inr (.inr ⟨by omega, ?_⟩)
            by_cases h3 : b < d
            · exact .inl ⟨h3, by simpa using h3, by simp; omega, less_true (hl.2 (by omega)), beq_eq_false_iff_ne.2 (fun e => by have := he.1 e; omega)⟩
            · by_cases h4 : d < b
              · exact .inr (.inl ⟨h4, by simp; omega, by simp; omega, less_false (fun e => by have := hl.1 e; omega), beq_eq_false_iff_ne.2 (fun e => by have := he.1 e; omega)⟩)
              · exact .inr (.inr ⟨by omega, less_false (fun e => by have := hl.1 e; omega), beq_iff_eq.2 (he.2 (by omega))⟩)
      clear hp hq
      rcases key with ⟨h0, h1, h2, h3, h4⟩ | ⟨h0, h1, h2, h3, h4⟩ | ⟨rfl, ⟨h0, h1, h2, h3, h4⟩ | ⟨h0, h1, h2, h3, h4⟩ | ⟨rfl, h3, h4⟩⟩
      all_goals
        go_enter Try.func7, Try.ntmps7
        go_wp2_with fail
        with_reducible refine (M1.out _).mono ?_
        rintro e w1 ⟨rfl, b1⟩
        go_wp2_with fail
        with_reducible refine (M2.out _).mono ?_
        rintro e w2 ⟨rfl, b2⟩
        go_wp2_with fail
        refine (iawake_any _).mono ?_
        rintro e w3 ⟨rfl, b3⟩
        go_wp2
        go_ret
        exact ⟨rfl, below_step (below_step b1 b2) b3⟩
end Go.Proofs.Ytfdbhmdaiihmhaa

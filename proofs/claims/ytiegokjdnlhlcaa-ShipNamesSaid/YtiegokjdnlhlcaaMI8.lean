/- Layer 8: the statements IdentRises and IdentBack and IdentOne, walked. -/
import Derived.Test.YtiegokjdnlhlcaaMI7
namespace Go.Proofs.Ytiegokjdnlhlcaa
open Go.RowKit Go.Lib

/-- Can a name be made of these? -/
def mk2 (t s : Int) : Option (List UInt8) := if 0 ≤ t ∧ t < 1099511627776 ∧ 0 ≤ s ∧ s < 1099511627776 then some (Idn.nam t.toNat s.toNat) else none
def mk2V : Option (List UInt8) → Value
  | none => .tuple #[.string (bs []), .int .i64 1]
  | some l => .tuple #[.string (bs l), .int .i64 0]
theorem mk2_any (t s : Int) (w : World) : Calls Try.prog 12 #[.int .i64 t, .int .i64 s] w fun e w' => e = .returned (mk2V (mk2 t s)) ∧ Below w.heap.size w w' := by
  unfold mk2
  split
  · rename_i h
    obtain ⟨t, rfl⟩ := Int.eq_ofNat_of_zero_le h.1
    obtain ⟨s, rfl⟩ := Int.eq_ofNat_of_zero_le h.2.2.1
    exact make_ok t s w (by omega) (by omega)
  · refine (make_no t s w (by omega)).mono ?_
    rintro e w' ⟨rfl, rfl⟩
    exact ⟨rfl, Below.refl _ _⟩

theorem mk2_some {t s : Int} {l : List UInt8} (h : mk2 t s = some l) : (0 ≤ t ∧ t < 1099511627776 ∧ 0 ≤ s ∧ s < 1099511627776) ∧ l = Idn.nam t.toNat s.toNat := by
  unfold mk2 at h
  split at h
  · rename_i k
    exact ⟨k, (Option.some.inj h).symm⟩
  · cases h
theorem less_lt : ∀ (a b : List UInt8), Op.bytesLess a b = true ↔ a < b
  | [], [] => by simp [Op.bytesLess]
  | [], _ :: _ => by simp [Op.bytesLess]
  | _ :: _, [] => by simp [Op.bytesLess]
  | x :: a, y :: b => by
    rw [Op.bytesLess, List.cons_lt_cons_iff]
    simp [less_lt a b]
theorem less_true {a b : List UInt8} (h : a < b) : Op.bytesLess a b = true := (less_lt a b).2 h
theorem less_false {a b : List UInt8} (h : ¬ a < b) : Op.bytesLess a b = false := by
  rw [Bool.eq_false_iff]
  exact fun e => h ((less_lt a b).1 e)

end Go.Proofs.Ytiegokjdnlhlcaa

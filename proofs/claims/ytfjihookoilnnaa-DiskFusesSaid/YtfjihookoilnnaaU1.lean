/- A slice of truths that came in, opened; DiskFuses' closure. -/
import Derived.Test.YtfjihookoilnnaaE5
import Derived.OpenShut
namespace Go.Proofs.Ytfjihookoilnnaa
open Go.RowKit Go.Lib Go.ChangeShapes Go.WideShapes Go.Conc Go.Deep

def BoolsAt (w : World) (a : Option Addr) (len : Nat) (zs : List Bool) : Prop :=
  zs.length = min len 40 ∧ (0 < len → ∃ g off, a = some ⟨g, off, none⟩ ∧ g < w.heap.size ∧ ∀ j, j < zs.length → w.cell? ⟨g, off + j, none⟩ = some (.bool (zs.getD j false)))

theorem bools_open {H : Type} {enc : TypeId × Value → H} {W : World} {base : Nat} {spare : Nat → Bool} {held : Bool} {fuel : Nat} {ao : Option Addr} {len cap : Nat} {x : DataW H × List MemPlace}
    (h : DataW.trod enc Try.prog W base spare held fuel 82 [.slice ao len cap] = some x) : ∃ zs, len ≤ maxLen ∧ BoolsAt W ao len zs := by
  rcases open_slice Try.underlying82 h with ⟨hcs, _⟩ | ⟨a, len', cap', m, n, D, Pl, hcs, hb, hl, hm, hmm, _, hi⟩
  · simp only [List.cons.injEq, Value.slice.injEq, and_true] at hcs
    obtain ⟨rfl, rfl, rfl⟩ := hcs
    exact ⟨[], Nat.zero_le _, by simp, fun h => absurd h (Nat.lt_irrefl 0)⟩
  · simp only [List.cons.injEq, Value.slice.injEq, and_true] at hcs
    obtain ⟨rfl, rfl, rfl⟩ := hcs
    have hlm : len ≤ m := by rw [hmm]; split <;> omega
    have ce : Try.prog.cellsOf 4 = 1 := by kernel_rfl
    have each : ∀ i, i < m → ∃ t : Bool, W.cell? (a.add i) = some (.bool t) := by
      intro i him
      obtain ⟨cs', h1, h2⟩ := hi i him
      rw [ce] at h1
      obtain ⟨_, hlen, hcell⟩ := World.cells?_some h1
      obtain ⟨c0, rfl⟩ : ∃ c0, cs' = [c0] := by
        match cs', hlen with
        | [c], _ => exact ⟨c, rfl⟩
      obtain ⟨z, q, _⟩ := DataW.trod_bool Try.underlying4 h2
      simp only [List.cons.injEq, and_true] at q
      subst q
      have e0 := hcell 0 (by omega)
      rw [add_add, Nat.add_zero, Nat.mul_one] at e0
      exact ⟨z, by simpa using e0⟩
    obtain ⟨T, hT⟩ := choose_lt each
    refine ⟨(List.range (min len 40)).map T, Nat.le_trans hl hm, by simp, fun h0 => ?_⟩
    obtain ⟨b, off, spot⟩ := a
    have hspot : spot = none := by
      have := World.cell?_spot (hT 0 (by omega))
      simpa [Addr.add] using this
    subst hspot
    refine ⟨b, off, rfl, ?_, fun j hj => ?_⟩
    · have := World.block_lt_of_cell? W _ (hT 0 (by omega))
      simpa [Addr.add] using this
    · have hlt : j < min len 40 := by simpa using hj
      have := hT j (by omega)
      simp only [add_plain] at this
      rw [this]
      simp [List.getD_eq_getElem?_getD, hlt]

set_option maxHeartbeats 1000000 in
set_option maxRecDepth 100000 in
/-- DiskFuses' closure: it ran; its own error. -/
theorem own_any (R O I g off len cap i : Nat) (o r : Bool) (w : World) (h1 : w.cell? ⟨R, 0, none⟩ = some (.bool r)) (f1 : w.frozen? ⟨R, 0, none⟩ = false) (h2 : w.cell? ⟨O, 0, none⟩ = some (.slice (some ⟨g, off, none⟩) len cap)) (h3 : w.cell? ⟨I, 0, none⟩ = some (.int .i64 i))
    (h4 : w.cell? ⟨g, off + i, none⟩ = some (.bool o)) (hi : i < len) (n1 : R ≠ O) (n2 : R ≠ I) (n3 : R ≠ g) :
    Calls Try.prog 33 #[.pointer (some ⟨R, 0, none⟩), .pointer (some ⟨O, 0, none⟩), .pointer (some ⟨I, 0, none⟩)] w fun e w' => ∃ er, e = .returned (.int .i64 er) ∧ er = (if o then 15 else 0) ∧ w' = w.setCell ⟨R, 0, none⟩ (.bool true) := by
  obtain ⟨W1, hW1⟩ : ∃ W1, W1 = w.setCell ⟨R, 0, none⟩ (.bool true) := ⟨_, rfl⟩
  have k2 : W1.cell? ⟨O, 0, none⟩ = some (.slice (some ⟨g, off, none⟩) len cap) := by rw [hW1, cell_setCell_other _ _ _ _ _ (.inl (Ne.symm n1))]; exact h2
  have k3 : W1.cell? ⟨I, 0, none⟩ = some (.int .i64 i) := by rw [hW1, cell_setCell_other _ _ _ _ _ (.inl (Ne.symm n2))]; exact h3
  have k4 : W1.cell? ⟨g, off + i, none⟩ = some (.bool o) := by rw [hW1, cell_setCell_other _ _ _ _ _ (.inl (Ne.symm n3))]; exact h4
  rw [hW1] at k2 k3 k4
  have HW1 := Lib.hid hW1
  have hi' : (i : Int) < len := by omega
  clear hW1
  cases o
  all_goals
    go_enter Try.func33, Try.ntmps33
    go_wp2_with fail
    go_ret
    exact ⟨_, rfl, rfl, rfl⟩

/-- The document's Try, whatever its faults. -/
theorem rtry_any (base : Nat) (v : Value) (A : List Ft) (w : World) (h : Sl w base 2 v A.length (ftc A)) (hb : base ≤ w.heap.size) (hA : A.length ≤ 101) (hf : ∀ x ∈ A, Ft.Fits x) :
    Calls Try.prog 34 #[.agg #[v]] w fun e w' => ∃ v', e = .returned (.tuple #[.agg #[v'], .bool (tryL A).1.1, .bool (tryL A).1.2]) ∧ Sl w' base 2 v' (tryL A).2.length (ftc (tryL A).2) ∧ Below w.heap.size w w' := by
  match A, h with
  | [], h =>
    refine (rtry_none base v w h).mono ?_
    rintro e w' ⟨rfl, b⟩
    exact ⟨v, rfl, h.on b, b⟩
  | x :: A, h =>
    have hx := hf x List.mem_cons_self
    unfold Ft.Fits at hx
    by_cases hp : 0 < x.1
    · refine (rtry_later base v x A w h hp hx.2 (by simp at hA; omega)).mono ?_
      rintro e w' ⟨v', rfl, hs, b⟩
      have ht : tryL (x :: A) = ((true, true), (x.1 - 1, x.2) :: A) := by simp only [tryL]; rw [if_pos (show x.1 > 0 from hp)]
      rw [ht]
      exact ⟨v', rfl, hs.mono hb, b⟩
    · refine (rtry_last base v x A w h hp (by simp at hA; omega)).mono ?_
      rintro e w' ⟨v', rfl, hs, b⟩
      have ht : tryL (x :: A) = ((false, x.2), A) := by simp only [tryL]; rw [if_neg (show ¬ x.1 > 0 from hp)]
      rw [ht]
      exact ⟨v', rfl, hs.mono hb, b⟩
end Go.Proofs.Ytfjihookoilnnaa

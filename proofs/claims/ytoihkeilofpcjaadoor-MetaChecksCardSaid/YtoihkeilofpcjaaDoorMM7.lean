/- Layer 9: Check. -/
import Derived.Test.YtoihkeilofpcjaaDoorMM5
import Derived.Lib.LaidTab
namespace Go.Proofs.YtoihkeilofpcjaaDoor
open Go.RowKit Go.Lib

/-- The variable 'parts' holds the two names. -/
def PartsAt (w : World) : Prop := 0 < w.heap.size ∧ w.cell? ⟨0, 0, none⟩ = some (.string (bs Mt.nmC)) ∧ w.cell? ⟨0, 1, none⟩ = some (.string (bs Mt.nmI))
theorem PartsAt.turn {S : Nat → Prop} {w w' : World} (h : PartsAt w) (t : Turn S w w') (hS : ¬ S 0) : PartsAt w' :=
  ⟨Nat.lt_of_lt_of_le h.1 t.size, (t.cell (p := ⟨0, 0, none⟩) h.1 hS).trans h.2.1, (t.cell (p := ⟨0, 1, none⟩) h.1 hS).trans h.2.2⟩
theorem PartsAt.below {w w' : World} (h : PartsAt w) (t : Below w.heap.size w w') : PartsAt w' := h.turn (S := fun _ => False) (Turn.of_below t) id
theorem PartsAt.at {w : World} (h : PartsAt w) (i : Nat) (x : List UInt8) (hx : [Mt.nmC, Mt.nmI][i]? = some x) : w.cell? ⟨0, i, none⟩ = some (.string (bs x)) := by
  match i, hx with
  | 0, hx => cases hx; exact h.2.1
  | 1, hx => cases hx; exact h.2.2

/-- A meta's lists read so. -/
def MeR (w : World) (m : Mt.Me) (vf vs : Value) : Prop := Rd w 3 vf m.files.length (flc m.files) ∧ Rd w 1 vs m.src.length (sc m.src) ∧ m.files.length ≤ 1000000 ∧ m.src.length ≤ 1000000
theorem MeR.on {w w' : World} {m : Mt.Me} {vf vs : Value} (h : MeR w m vf vs) (b : Below w.heap.size w w') : MeR w' m vf vs := ⟨h.1.on b, h.2.1.on b, h.2.2⟩

theorem flc_at : ∀ (l : List Mt.Fl) (i : Nat) (f : Mt.Fl), l[i]? = some f → (flc l)[i * 3]? = some (.string (bs f.name)) ∧ (flc l)[i * 3 + 1]? = some (.int .i64 f.size) ∧ (flc l)[i * 3 + 2]? = some (.int .u32 f.sum)
  | [], i, f, h => by simp at h
  | x :: l, 0, f, h => by
    simp only [List.getElem?_cons_zero, Option.some.injEq] at h
    subst h
    exact ⟨rfl, rfl, rfl⟩
  | x :: l, i + 1, f, h => by
    have ih := flc_at l i f (by simpa using h)
    have e : flc (x :: l) = [.string (bs x.name), .int .i64 x.size, .int .u32 x.sum] ++ flc l := rfl
    have k : ∀ j, (flc (x :: l))[(i + 1) * 3 + j]? = (flc l)[i * 3 + j]? := fun j => by
      rw [e, List.getElem?_append_right (by simp; omega)]
      congr 1
      simp; omega
    exact ⟨(k 0).trans ih.1, (k 1).trans ih.2.1, (k 2).trans ih.2.2⟩

set_option maxHeartbeats 1000000 in
set_option maxRecDepth 100000 in
theorem times_any (m : Mt.Me) (vf vs : Value) (w : World) : Calls Tryd.prog 22 #[meV m vf vs] w fun e w' => e = .returned (.bool (Mt.okT m)) ∧ Below w.heap.size w w' := by
  obtain ⟨id, mn, mx, lv, se, sa, files, src⟩ := m
  have HK := Lib.hid (show Mt.okT ⟨id, mn, mx, lv, se, sa, files, src⟩ = (decide (0 ≤ mn) && decide (mn < mx) && decide (mx ≤ 1099511627776)) from rfl)
  rw [HK.out]
  unfold meV
  cases h1 : decide (0 ≤ mn)
  · go_enter Tryd.func22, Tryd.ntmps22
    go_wp2
    go_ret
    exact ⟨rfl, (Below.refl _ _).alloc (Nat.le_refl _) _⟩
  · cases h2 : decide (mn < mx)
    · go_enter Tryd.func22, Tryd.ntmps22
      go_wp2
      go_ret
      exact ⟨rfl, (Below.refl _ _).alloc (Nat.le_refl _) _⟩
    · have HE := Lib.hid (show (true && true && decide (mx ≤ 1099511627776)) = decide (mx ≤ 1099511627776) from rfl)
      rw [HE.out]
      go_enter Tryd.func22, Tryd.ntmps22
      go_wp2
      go_ret
      exact ⟨rfl, (Below.refl _ _).alloc (Nat.le_refl _) _⟩

set_option maxHeartbeats 1000000 in
set_option maxRecDepth 100000 in
theorem numbers_any (m : Mt.Me) (vf vs : Value) (w : World) : Calls Tryd.prog 23 #[meV m vf vs] w fun e w' => e = .returned (.bool (Mt.okN m)) ∧ Below w.heap.size w w' := by
  obtain ⟨id, mn, mx, lv, se, sa, files, src⟩ := m
  have HK := Lib.hid (show Mt.okN ⟨id, mn, mx, lv, se, sa, files, src⟩ = (decide (1 ≤ lv) && decide (lv ≤ 9) && decide (0 ≤ se) && decide (se ≤ sa) && decide (sa ≤ 1073741824)) from rfl)
  rw [HK.out]
  unfold meV
  by_cases a1 : lv < 1
  · have h1 : decide (lv < 1) = true := decide_eq_true a1
    have HE := Lib.hid (show (decide (1 ≤ lv) && decide (lv ≤ 9) && decide (0 ≤ se) && decide (se ≤ sa) && decide (sa ≤ 1073741824)) = false by rw [decide_eq_false (show ¬ 1 ≤ lv by omega)]; rfl)
    rw [HE.out]
    clear a1
    go_enter Tryd.func23, Tryd.ntmps23
    go_wp2
    go_ret
    exact ⟨rfl, (Below.refl _ _).alloc (Nat.le_refl _) _⟩
  · have h1 : decide (lv < 1) = false := decide_eq_false a1
    by_cases a2 : 9 < lv
    · have h2 : decide (9 < lv) = true := decide_eq_true a2
      have HE := Lib.hid (show (decide (1 ≤ lv) && decide (lv ≤ 9) && decide (0 ≤ se) && decide (se ≤ sa) && decide (sa ≤ 1073741824)) = false by rw [decide_eq_false (show ¬ lv ≤ 9 by omega)]; simp)
      rw [HE.out]
      clear a1 a2
      go_enter Tryd.func23, Tryd.ntmps23
      go_wp2
      go_ret
      exact ⟨rfl, (Below.refl _ _).alloc (Nat.le_refl _) _⟩
    · have h2 : decide (9 < lv) = false := decide_eq_false a2
      have HE := Lib.hid (show (decide (1 ≤ lv) && decide (lv ≤ 9) && decide (0 ≤ se) && decide (se ≤ sa) && decide (sa ≤ 1073741824)) = (decide (0 ≤ se) && decide (se ≤ sa) && decide (sa ≤ 1073741824)) by rw [decide_eq_true (show 1 ≤ lv by omega), decide_eq_true (show lv ≤ 9 by omega)]; rfl)
      rw [HE.out]
      clear a1 a2
      cases h3 : decide (0 ≤ se)
      · go_enter Tryd.func23, Tryd.ntmps23
        go_wp2
        go_ret
        exact ⟨rfl, (Below.refl _ _).alloc (Nat.le_refl _) _⟩
      · cases h4 : decide (se ≤ sa)
        · go_enter Tryd.func23, Tryd.ntmps23
          go_wp2
          go_ret
          exact ⟨rfl, (Below.refl _ _).alloc (Nat.le_refl _) _⟩
        · have HF := Lib.hid (show (true && true && decide (sa ≤ 1073741824)) = decide (sa ≤ 1073741824) from rfl)
          rw [HF.out]
          go_enter Tryd.func23, Tryd.ntmps23
          go_wp2
          go_ret
          exact ⟨rfl, (Below.refl _ _).alloc (Nat.le_refl _) _⟩
end Go.Proofs.YtoihkeilofpcjaaDoor

/- Layer 6: pairs as cells; two pairs compared. -/
import Derived.Test.YtobdlfikomnmcaaGreatDoorMCmp
import Derived.Test.YtobdlfikomnmcaaGreatDoorMStr
import Derived.Test.YtobdlfikomnmcaaGreatDoorMSrtP
namespace Go.Proofs.YtobdlfikomnmcaaGreatDoor
open Go.RowKit Go.Lib

/-- A name, and what it says. -/
structure Pr where
  n : List UInt8
  v : List UInt8
deriving DecidableEq
instance : Inhabited Pr := ⟨⟨[], []⟩⟩
def encP (x : Pr) : List Value := [.string (bs x.n), .string (bs x.v)]
def prV (x : Pr) : Value := .agg #[.string (bs x.n), .string (bs x.v)]
def prc (ds : List Pr) : List Value := ds.flatMap encP
theorem prc_length (ds : List Pr) : (prc ds).length = ds.length * 2 := by
  induction ds with
  | nil => rfl
  | cons x ds ih => simp only [prc, List.flatMap_cons, List.length_append, List.length_cons, encP, List.length_nil] at *; omega
theorem prc_append (a b : List Pr) : prc (a ++ b) = prc a ++ prc b := by simp [prc]
theorem prc_cons (a : Pr) (b : List Pr) : prc (a :: b) = encP a ++ prc b := by simp [prc]
theorem prc_get : ∀ (ds : List Pr) (t : Nat), t < ds.length * 2 → (prc ds)[t]? = some ((encP (ds.toArray[t / 2]!))[t % 2]!)
  | [], t, h => by simp at h
  | x :: ds, t, h => by
    rw [prc_cons]
    by_cases ht : t < 2
    · have h0 : t / 2 = 0 := by omega
      have h1 : t % 2 = t := by omega
      rw [h0, h1, List.getElem?_append_left (by simpa [encP] using ht)]
      have : t = 0 ∨ t = 1 := by omega
      rcases this with rfl | rfl <;> rfl
    · obtain ⟨u, rfl⟩ : ∃ u, t = u + 2 := ⟨t - 2, by omega⟩
      have h0 : (u + 2) / 2 = u / 2 + 1 := by omega
      have h1 : (u + 2) % 2 = u % 2 := by omega
      have hl : (encP x).length = 2 := rfl
      rw [h0, h1, List.getElem?_append_right (by omega), hl, Nat.add_sub_cancel, prc_get ds u (by simp at h; omega)]
      simp
theorem prc_at : ∀ (ds : List Pr) (j : Nat) (x : Pr), ds[j]? = some x → (prc ds)[j * 2]? = some (.string (bs x.n)) ∧ (prc ds)[j * 2 + 1]? = some (.string (bs x.v))
  | [], j, x, h => by simp at h
  | y :: ds, 0, x, h => by
    simp at h; subst h
    exact ⟨rfl, rfl⟩
  | y :: ds, j + 1, x, h => by
    have ih := prc_at ds j x (by simpa using h)
    have hl : (encP y).length = 2 := rfl
    rw [prc_cons, List.getElem?_append_right (by omega), List.getElem?_append_right (by omega), hl]
    rw [show (j + 1) * 2 - 2 = j * 2 by omega, show (j + 1) * 2 + 1 - 2 = j * 2 + 1 by omega]
    exact ih

/-- Two pairs compared: by names, then by values. -/
def cfP (x y : Pr) : Int := if Lib.compareBytes x.n y.n = 0 then Lib.compareBytes x.v y.v else Lib.compareBytes x.n y.n

set_option maxHeartbeats 1000000 in
set_option maxRecDepth 100000 in
theorem cmps0_any (a b : ByteArray) (w : World) :
    Calls Tryz.prog 89 #[.string a, .string b] w fun e w' => e = .returned (.int .i64 (Lib.compareBytes a.data.toList b.data.toList)) ∧ w = w' := by
  go_enter Tryz.func89, Tryz.ntmps89
  go_wp2
  rw [run_callFunc_extern Tryz.func99 (by kernel_rfl) (by kernel_rfl) (by kernel_rfl) (e := Extern.BytealgCompare.compare) (by kernel_rfl), Lib.run_compareString]
  simp only [Result.andThen]
  rw [Oper.upon_value]
  go_wp2
  go_ret
  exact ⟨rfl, rfl⟩
theorem cmps_any (a b : ByteArray) (w : World) :
    Calls Tryz.prog 70 #[.string a, .string b] w fun e w' => e = .returned (.int .i64 (Lib.compareBytes a.data.toList b.data.toList)) ∧ w = w' := by
  go_enter Tryz.func70, Tryz.ntmps70
  go_wp2_with fail
  refine (cmps0_any a b _).mono ?_
  rintro e w1 ⟨rfl, rfl⟩
  go_wp2
  go_ret
  exact ⟨rfl, rfl⟩
theorem cmps_bs (a b : List UInt8) (r : Int) (hr : Lib.compareBytes a b = r) (w : World) :
    Calls Tryz.prog 70 #[.string (bs a), .string (bs b)] w fun e w' => e = .returned (.int .i64 r) ∧ w = w' := by
  subst hr
  exact cmps_any (bs a) (bs b) w

set_option maxHeartbeats 1000000 in
set_option maxRecDepth 100000 in
theorem cmpp_any (x y : Pr) (w : World) :
    Calls Tryz.prog 53 #[prV x, prV y] w fun e w' => e = .returned (.int .i64 (cfP x y)) ∧ ∃ q os', w' = Sort.grow (w.drewN q) os' := by
  unfold cfP prV
  have H1 := Lib.hid (fun W => cmps_bs x.n y.n _ rfl W)
  have H2 := Lib.hid (fun W => cmps_bs x.v y.v _ rfl W)
  generalize Lib.compareBytes x.n y.n = r1 at H1 ⊢
  generalize Lib.compareBytes x.v y.v = r2 at H2 ⊢
  by_cases h : r1 = 0
  · rw [if_pos h]
    subst h
    go_enter Tryz.func53, Tryz.ntmps53
    go_wp2_with fail
    refine (H1.out _).mono ?_
    rintro e w1 ⟨rfl, rfl⟩
    go_wp2_with fail
    refine (H2.out _).mono ?_
    rintro e w1 ⟨rfl, rfl⟩
    go_wp2
    go_ret
    exact ⟨rfl, 0, _, by rw [Sort.alloc_eq_grow, Sort.alloc_eq_grow, Sort.grow_grow]; rfl⟩
  · rw [if_neg h]
    go_enter Tryz.func53, Tryz.ntmps53
    go_wp2_with fail
    refine (H1.out _).mono ?_
    rintro e w1 ⟨rfl, rfl⟩
    go_wp2
    go_ret
    exact ⟨rfl, 0, _, by rw [Sort.alloc_eq_grow, Sort.alloc_eq_grow, Sort.grow_grow]; rfl⟩
end Go.Proofs.YtobdlfikomnmcaaGreatDoor

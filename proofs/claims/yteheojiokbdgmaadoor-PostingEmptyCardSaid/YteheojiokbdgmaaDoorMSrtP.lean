/- The library's contracts, laid over this program. Layer 6: pairs as cells; two pairs compared. -/
import Derived.Shelf.SlSortCmp.NoneTotal
import Derived.Shelf.SlSortCmp.WholeK
import Derived.Test.YteheojiokbdgmaaDoorProg
import Derived.Test.YteheojiokbdgmaaDoorMCmp
namespace Go.Proofs.YteheojiokbdgmaaDoor
open Go.Shelf Go.Proofs
def sortPair_ren : Go.Shelf.Ren := ⟨fun | 14 => 52 | 20 => 74 | 21 => 75 | 22 => 76 | 23 => 77 | 24 => 78 | 25 => 79 | 26 => 80 | 27 => 81 | 46 => 94 | 47 => 86 | 48 => 87 | 49 => 95 | 50 => 96 | 15 => 43 | 57 => 99 | 28 => 65 | 29 => 66 | n => n, fun | 24 => 46 | 22 => 23 | 3 => 3 | 25 => 82 | 4 => 4 | 0 => 0 | 46 => 98 | 45 => 97 | 50 => 76 | 66 => 116 | 39 => 87 | 55 => 107 | 70 => 120 | 76 => 131 | 77 => 132 | 53 => 105 | 5 => 5 | 9 => 9 | n => n, fun | n => n⟩
theorem sortPair : Go.Proofs.SlLaysF0.n14 Tryd.prog sortPair_ren := {
  mixed := by kernel_rfl
  f14 := ⟨Tryd.f52.name, by decide, Tryd.func52.trans (congrArg some (by kernel_rfl))⟩
  f15 := Tryd.func43.trans (congrArg some (by kernel_rfl))
  f20 := ⟨Tryd.f74.name, by decide, Tryd.func74.trans (congrArg some (by kernel_rfl))⟩
  f21 := ⟨Tryd.f75.name, by decide, Tryd.func75.trans (congrArg some (by kernel_rfl))⟩
  f22 := ⟨Tryd.f76.name, by decide, Tryd.func76.trans (congrArg some (by kernel_rfl))⟩
  f23 := ⟨Tryd.f77.name, by decide, Tryd.func77.trans (congrArg some (by kernel_rfl))⟩
  f24 := ⟨Tryd.f78.name, by decide, Tryd.func78.trans (congrArg some (by kernel_rfl))⟩
  f25 := ⟨Tryd.f79.name, by decide, Tryd.func79.trans (congrArg some (by kernel_rfl))⟩
  f26 := ⟨Tryd.f80.name, by decide, Tryd.func80.trans (congrArg some (by kernel_rfl))⟩
  f27 := ⟨Tryd.f81.name, by decide, Tryd.func81.trans (congrArg some (by kernel_rfl))⟩
  f28 := Tryd.func65.trans (congrArg some (by kernel_rfl))
  f29 := Tryd.func66.trans (congrArg some (by kernel_rfl))
  f46 := ⟨Tryd.f94.name, by decide, Tryd.func94.trans (congrArg some (by kernel_rfl))⟩
  f47 := Tryd.func86.trans (congrArg some (by kernel_rfl))
  f48 := Tryd.func87.trans (congrArg some (by kernel_rfl))
  f49 := ⟨Tryd.f95.name, by decide, Tryd.func95.trans (congrArg some (by kernel_rfl))⟩
  f50 := ⟨Tryd.f96.name, by decide, Tryd.func96.trans (congrArg some (by kernel_rfl))⟩
  f57 := ⟨Tryd.f99.name, by decide, Tryd.func99.trans (congrArg some (by kernel_rfl))⟩
  t0 := Tryd.underlying0
  a0 := Tryd.isAgg0
  z0 := Tryd.sizeOf0
  v0 := Tryd.zeroValue0
  t3 := Tryd.underlying3
  a3 := Tryd.isAgg3
  z3 := Tryd.sizeOf3
  v3 := Tryd.zeroValue3
  t4 := Tryd.underlying4
  a4 := Tryd.isAgg4
  z4 := Tryd.sizeOf4
  v4 := Tryd.zeroValue4
  t5 := Tryd.underlying5
  a5 := Tryd.isAgg5
  z5 := Tryd.sizeOf5
  v5 := Tryd.zeroValue5
  t9 := Tryd.underlying9
  a9 := Tryd.isAgg9
  z9 := Tryd.sizeOf9
  v9 := Tryd.zeroValue9
  t22 := Tryd.underlying23
  a22 := Tryd.isAgg23
  z22 := Tryd.sizeOf23
  v22 := Tryd.zeroValue23
  t25 := Tryd.underlying82
  a25 := Tryd.isAgg82
  z25 := Tryd.sizeOf82
  v25 := Tryd.zeroValue82
  t39 := Tryd.underlying87
  a39 := Tryd.isAgg87
  z39 := Tryd.sizeOf87
  v39 := Tryd.zeroValue87
  t45 := Tryd.underlying97
  a45 := Tryd.isAgg97
  z45 := Tryd.sizeOf97
  v45 := Tryd.zeroValue97
  t46 := Tryd.underlying98
  a46 := Tryd.isAgg98
  z46 := Tryd.sizeOf98
  v46 := Tryd.zeroValue98
  t50 := Tryd.underlying76
  a50 := Tryd.isAgg76
  z50 := Tryd.sizeOf76
  v50 := Tryd.zeroValue76
  t53 := Tryd.underlying105
  a53 := Tryd.isAgg105
  z53 := Tryd.sizeOf105
  v53 := Tryd.zeroValue105
  t55 := Tryd.underlying107
  a55 := Tryd.isAgg107
  z55 := Tryd.sizeOf107
  v55 := Tryd.zeroValue107
  t66 := Tryd.underlying116
  a66 := Tryd.isAgg116
  z66 := Tryd.sizeOf116
  v66 := Tryd.zeroValue116
  t70 := Tryd.underlying120
  a70 := Tryd.isAgg120
  z70 := Tryd.sizeOf120
  v70 := Tryd.zeroValue120
  t76 := Tryd.underlying131
  a76 := Tryd.isAgg131
  z76 := Tryd.sizeOf131
  v76 := Tryd.zeroValue131
  t77 := Tryd.underlying132
  a77 := Tryd.isAgg132
  z77 := Tryd.sizeOf132
  v77 := Tryd.zeroValue132 }
end Go.Proofs.YteheojiokbdgmaaDoor

namespace Go.Proofs.YteheojiokbdgmaaDoor
open Go.RowKit Go.Lib

/-- A name, and what it says. -/
structure Pr where
  n : List UInt8
  v : List UInt8
deriving DecidableEq
instance : Inhabited Pr := ⟨⟨[], []⟩⟩
def encP (x : Pr) : List Value := [.string (bs x.n), .string (bs x.v)]
def prV (x : Pr) : Value := .agg #[.string (bs x.n), .string (bs x.v)]
def prc (ds : List Pr) : List Value := ds.flatMap encP
theorem prc_length (ds : List Pr) : (prc ds).length = ds.length * 2 := by
  induction ds with
  | nil => rfl
  | cons x ds ih => simp only [prc, List.flatMap_cons, List.length_append, List.length_cons, encP, List.length_nil] at *; omega
theorem prc_append (a b : List Pr) : prc (a ++ b) = prc a ++ prc b := by simp [prc]
theorem prc_cons (a : Pr) (b : List Pr) : prc (a :: b) = encP a ++ prc b := by simp [prc]
theorem prc_get : ∀ (ds : List Pr) (t : Nat), t < ds.length * 2 → (prc ds)[t]? = some ((encP (ds.toArray[t / 2]!))[t % 2]!)
  | [], t, h => by simp at h
  | x :: ds, t, h => by
    rw [prc_cons]
    by_cases ht : t < 2
    · have h0 : t / 2 = 0 := by omega
      have h1 : t % 2 = t := by omega
      rw [h0, h1, List.getElem?_append_left (by simpa [encP] using ht)]
      have : t = 0 ∨ t = 1 := by omega
      rcases this with rfl | rfl <;> rfl
    · obtain ⟨u, rfl⟩ : ∃ u, t = u + 2 := ⟨t - 2, by omega⟩
      have h0 : (u + 2) / 2 = u / 2 + 1 := by omega
      have h1 : (u + 2) % 2 = u % 2 := by omega
      have hl : (encP x).length = 2 := rfl
      rw [h0, h1, List.getElem?_append_right (by omega), hl, Nat.add_sub_cancel, prc_get ds u (by simp at h; omega)]
      simp
theorem prc_at : ∀ (ds : List Pr) (j : Nat) (x : Pr), ds[j]? = some x → (prc ds)[j * 2]? = some (.string (bs x.n)) ∧ (prc ds)[j * 2 + 1]? = some (.string (bs x.v))
  | [], j, x, h => by simp at h
  | y :: ds, 0, x, h => by
    simp at h; subst h
    exact ⟨rfl, rfl⟩
  | y :: ds, j + 1, x, h => by
    have ih := prc_at ds j x (by simpa using h)
    have hl : (encP y).length = 2 := rfl
    rw [prc_cons, List.getElem?_append_right (by omega), List.getElem?_append_right (by omega), hl]
    rw [show (j + 1) * 2 - 2 = j * 2 by omega, show (j + 1) * 2 + 1 - 2 = j * 2 + 1 by omega]
    exact ih

/-- Two pairs compared: by names, then by values. -/
def cfP (x y : Pr) : Int := if Lib.compareBytes x.n y.n = 0 then Lib.compareBytes x.v y.v else Lib.compareBytes x.n y.n

set_option maxHeartbeats 1000000 in
set_option maxRecDepth 100000 in
theorem cmps0_any (a b : ByteArray) (w : World) :
    Calls Tryd.prog 82 #[.string a, .string b] w fun e w' => e = .returned (.int .i64 (Lib.compareBytes a.data.toList b.data.toList)) ∧ w = w' := by
  go_enter Tryd.func82, Tryd.ntmps82
  go_wp2
  rw [run_callFunc_extern Tryd.func97 (by kernel_rfl) (by kernel_rfl) (by kernel_rfl) (e := Extern.BytealgCompare.compare) (by kernel_rfl), Lib.run_compareString]
  simp only [Result.andThen]
  rw [Oper.upon_value]
  go_wp2
  go_ret
  exact ⟨rfl, rfl⟩
theorem cmps_any (a b : ByteArray) (w : World) :
    Calls Tryd.prog 53 #[.string a, .string b] w fun e w' => e = .returned (.int .i64 (Lib.compareBytes a.data.toList b.data.toList)) ∧ w = w' := by
  go_enter Tryd.func53, Tryd.ntmps53
  go_wp2_with fail
  refine (cmps0_any a b _).mono ?_
  rintro e w1 ⟨rfl, rfl⟩
  go_wp2
  go_ret
  exact ⟨rfl, rfl⟩
theorem cmps_bs (a b : List UInt8) (r : Int) (hr : Lib.compareBytes a b = r) (w : World) :
    Calls Tryd.prog 53 #[.string (bs a), .string (bs b)] w fun e w' => e = .returned (.int .i64 r) ∧ w = w' := by
  subst hr
  exact cmps_any (bs a) (bs b) w

set_option maxHeartbeats 1000000 in
set_option maxRecDepth 100000 in
theorem cmpp_any (x y : Pr) (w : World) :
    Calls Tryd.prog 39 #[prV x, prV y] w fun e w' => e = .returned (.int .i64 (cfP x y)) ∧ ∃ q os', w' = Sort.grow (w.drewN q) os' := by
  unfold cfP prV
  have H1 := Lib.hid (fun W => cmps_bs x.n y.n _ rfl W)
  have H2 := Lib.hid (fun W => cmps_bs x.v y.v _ rfl W)
  generalize Lib.compareBytes x.n y.n = r1 at H1 ⊢
  generalize Lib.compareBytes x.v y.v = r2 at H2 ⊢
  by_cases h : r1 = 0
  · rw [if_pos h]
    subst h
    go_enter Tryd.func39, Tryd.ntmps39
    go_wp2_with fail
    refine (H1.out _).mono ?_
    rintro e w1 ⟨rfl, rfl⟩
    go_wp2_with fail
    refine (H2.out _).mono ?_
    rintro e w1 ⟨rfl, rfl⟩
    go_wp2
    go_ret
    exact ⟨rfl, 0, _, by rw [Sort.alloc_eq_grow, Sort.alloc_eq_grow, Sort.grow_grow]; rfl⟩
  · rw [if_neg h]
    go_enter Tryd.func39, Tryd.ntmps39
    go_wp2_with fail
    refine (H1.out _).mono ?_
    rintro e w1 ⟨rfl, rfl⟩
    go_wp2
    go_ret
    exact ⟨rfl, 0, _, by rw [Sort.alloc_eq_grow, Sort.alloc_eq_grow, Sort.grow_grow]; rfl⟩
end Go.Proofs.YteheojiokbdgmaaDoor

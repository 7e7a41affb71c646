/- The library's contracts, laid over this program. Layer 6: pairs as cells; two pairs compared. -/
import Derived.Shelf.SlSortCmp.NoneTotal
import Derived.Shelf.SlSortCmp.WholeK
import Derived.Test.YteheojiokbdgmaaGreatDoorProg
import Derived.Test.YteheojiokbdgmaaGreatDoorMCmp
namespace Go.Proofs.YteheojiokbdgmaaGreatDoor
open Go.Shelf Go.Proofs
def sortPair_ren : Go.Shelf.Ren := ⟨fun | 14 => 64 | 20 => 86 | 21 => 87 | 22 => 88 | 23 => 89 | 24 => 90 | 25 => 91 | 26 => 92 | 27 => 93 | 46 => 106 | 47 => 98 | 48 => 99 | 49 => 107 | 50 => 108 | 15 => 55 | 57 => 111 | 28 => 77 | 29 => 78 | n => n, fun | 24 => 58 | 22 => 52 | 3 => 3 | 25 => 94 | 4 => 4 | 0 => 0 | 46 => 110 | 45 => 109 | 50 => 88 | 66 => 128 | 39 => 99 | 55 => 119 | 70 => 132 | 76 => 143 | 77 => 144 | 53 => 117 | 5 => 5 | 9 => 9 | n => n, fun | n => n⟩
theorem sortPair : Go.Proofs.SlLaysF0.n14 Tryz.prog sortPair_ren := {
  mixed := by kernel_rfl
  f14 := ⟨Tryz.f64.name, by decide, Tryz.func64.trans (congrArg some (by kernel_rfl))⟩
  f15 := Tryz.func55.trans (congrArg some (by kernel_rfl))
  f20 := ⟨Tryz.f86.name, by decide, Tryz.func86.trans (congrArg some (by kernel_rfl))⟩
  f21 := ⟨Tryz.f87.name, by decide, Tryz.func87.trans (congrArg some (by kernel_rfl))⟩
  f22 := ⟨Tryz.f88.name, by decide, Tryz.func88.trans (congrArg some (by kernel_rfl))⟩
  f23 := ⟨Tryz.f89.name, by decide, Tryz.func89.trans (congrArg some (by kernel_rfl))⟩
  f24 := ⟨Tryz.f90.name, by decide, Tryz.func90.trans (congrArg some (by kernel_rfl))⟩
  f25 := ⟨Tryz.f91.name, by decide, Tryz.func91.trans (congrArg some (by kernel_rfl))⟩
  f26 := ⟨Tryz.f92.name, by decide, Tryz.func92.trans (congrArg some (by kernel_rfl))⟩
  f27 := ⟨Tryz.f93.name, by decide, Tryz.func93.trans (congrArg some (by kernel_rfl))⟩
  f28 := Tryz.func77.trans (congrArg some (by kernel_rfl))
  f29 := Tryz.func78.trans (congrArg some (by kernel_rfl))
  f46 := ⟨Tryz.f106.name, by decide, Tryz.func106.trans (congrArg some (by kernel_rfl))⟩
  f47 := Tryz.func98.trans (congrArg some (by kernel_rfl))
  f48 := Tryz.func99.trans (congrArg some (by kernel_rfl))
  f49 := ⟨Tryz.f107.name, by decide, Tryz.func107.trans (congrArg some (by kernel_rfl))⟩
  f50 := ⟨Tryz.f108.name, by decide, Tryz.func108.trans (congrArg some (by kernel_rfl))⟩
  f57 := ⟨Tryz.f111.name, by decide, Tryz.func111.trans (congrArg some (by kernel_rfl))⟩
  t0 := Tryz.underlying0
  a0 := Tryz.isAgg0
  z0 := Tryz.sizeOf0
  v0 := Tryz.zeroValue0
  t3 := Tryz.underlying3
  a3 := Tryz.isAgg3
  z3 := Tryz.sizeOf3
  v3 := Tryz.zeroValue3
  t4 := Tryz.underlying4
  a4 := Tryz.isAgg4
  z4 := Tryz.sizeOf4
  v4 := Tryz.zeroValue4
  t5 := Tryz.underlying5
  a5 := Tryz.isAgg5
  z5 := Tryz.sizeOf5
  v5 := Tryz.zeroValue5
  t9 := Tryz.underlying9
  a9 := Tryz.isAgg9
  z9 := Tryz.sizeOf9
  v9 := Tryz.zeroValue9
  t22 := Tryz.underlying52
  a22 := Tryz.isAgg52
  z22 := Tryz.sizeOf52
  v22 := Tryz.zeroValue52
  t25 := Tryz.underlying94
  a25 := Tryz.isAgg94
  z25 := Tryz.sizeOf94
  v25 := Tryz.zeroValue94
  t39 := Tryz.underlying99
  a39 := Tryz.isAgg99
  z39 := Tryz.sizeOf99
  v39 := Tryz.zeroValue99
  t45 := Tryz.underlying109
  a45 := Tryz.isAgg109
  z45 := Tryz.sizeOf109
  v45 := Tryz.zeroValue109
  t46 := Tryz.underlying110
  a46 := Tryz.isAgg110
  z46 := Tryz.sizeOf110
  v46 := Tryz.zeroValue110
  t50 := Tryz.underlying88
  a50 := Tryz.isAgg88
  z50 := Tryz.sizeOf88
  v50 := Tryz.zeroValue88
  t53 := Tryz.underlying117
  a53 := Tryz.isAgg117
  z53 := Tryz.sizeOf117
  v53 := Tryz.zeroValue117
  t55 := Tryz.underlying119
  a55 := Tryz.isAgg119
  z55 := Tryz.sizeOf119
  v55 := Tryz.zeroValue119
  t66 := Tryz.underlying128
  a66 := Tryz.isAgg128
  z66 := Tryz.sizeOf128
  v66 := Tryz.zeroValue128
  t70 := Tryz.underlying132
  a70 := Tryz.isAgg132
  z70 := Tryz.sizeOf132
  v70 := Tryz.zeroValue132
  t76 := Tryz.underlying143
  a76 := Tryz.isAgg143
  z76 := Tryz.sizeOf143
  v76 := Tryz.zeroValue143
  t77 := Tryz.underlying144
  a77 := Tryz.isAgg144
  z77 := Tryz.sizeOf144
  v77 := Tryz.zeroValue144 }
end Go.Proofs.YteheojiokbdgmaaGreatDoor

namespace Go.Proofs.YteheojiokbdgmaaGreatDoor
open Go.RowKit Go.Lib

/-- A name, and what it says. -/
structure Pr where
  n : List UInt8
  v : List UInt8
deriving DecidableEq
instance : Inhabited Pr := ⟨⟨[], []⟩⟩
def encP (x : Pr) : List Value := [.string (bs x.n), .string (bs x.v)]
def prV (x : Pr) : Value := .agg #[.string (bs x.n), .string (bs x.v)]
def prc (ds : List Pr) : List Value := ds.flatMap encP
theorem prc_length (ds : List Pr) : (prc ds).length = ds.length * 2 := by
  induction ds with
  | nil => rfl
  | cons x ds ih => simp only [prc, List.flatMap_cons, List.length_append, List.length_cons, encP, List.length_nil] at *; omega
theorem prc_append (a b : List Pr) : prc (a ++ b) = prc a ++ prc b := by simp [prc]
theorem prc_cons (a : Pr) (b : List Pr) : prc (a :: b) = encP a ++ prc b := by simp [prc]
theorem prc_get : ∀ (ds : List Pr) (t : Nat), t < ds.length * 2 → (prc ds)[t]? = some ((encP (ds.toArray[t / 2]!))[t % 2]!)
  | [], t, h => by simp at h
  | x :: ds, t, h => by
    rw [prc_cons]
    by_cases ht : t < 2
    · have h0 : t / 2 = 0 := by omega
      have h1 : t % 2 = t := by omega
      rw [h0, h1, List.getElem?_append_left (by simpa [encP] using ht)]
      have : t = 0 ∨ t = 1 := by omega
      rcases this with rfl | rfl <;> rfl
    · obtain ⟨u, rfl⟩ : ∃ u, t = u + 2 := ⟨t - 2, by omega⟩
      have h0 : (u + 2) / 2 = u / 2 + 1 := by omega
      have h1 : (u + 2) % 2 = u % 2 := by omega
      have hl : (encP x).length = 2 := rfl
      rw [h0, h1, List.getElem?_append_right (by omega), hl, Nat.add_sub_cancel, prc_get ds u (by simp at h; omega)]
      simp
theorem prc_at : ∀ (ds : List Pr) (j : Nat) (x : Pr), ds[j]? = some x → (prc ds)[j * 2]? = some (.string (bs x.n)) ∧ (prc ds)[j * 2 + 1]? = some (.string (bs x.v))
  | [], j, x, h => by simp at h
  | y :: ds, 0, x, h => by
    simp at h; subst h
    exact ⟨rfl, rfl⟩
  | y :: ds, j + 1, x, h => by
    have ih := prc_at ds j x (by simpa using h)
    have hl : (encP y).length = 2 := rfl
    rw [prc_cons, List.getElem?_append_right (by omega), List.getElem?_append_right (by omega), hl]
    rw [show (j + 1) * 2 - 2 = j * 2 by omega, show (j + 1) * 2 + 1 - 2 = j * 2 + 1 by omega]
    exact ih

/-- Two pairs compared: by names, then by values. -/
def cfP (x y : Pr) : Int := if Lib.compareBytes x.n y.n = 0 then Lib.compareBytes x.v y.v else Lib.compareBytes x.n y.n

set_option maxHeartbeats 1000000 in
set_option maxRecDepth 100000 in
theorem cmps0_any (a b : ByteArray) (w : World) :
    Calls Tryz.prog 94 #[.string a, .string b] w fun e w' => e = .returned (.int .i64 (Lib.compareBytes a.data.toList b.data.toList)) ∧ w = w' := by
  go_enter Tryz.func94, Tryz.ntmps94
  go_wp2
  rw [run_callFunc_extern Tryz.func109 (by kernel_rfl) (by kernel_rfl) (by kernel_rfl) (e := Extern.BytealgCompare.compare) (by kernel_rfl), Lib.run_compareString]
  simp only [Result.andThen]
  rw [Oper.upon_value]
  go_wp2
  go_ret
  exact ⟨rfl, rfl⟩
theorem cmps_any (a b : ByteArray) (w : World) :
    Calls Tryz.prog 65 #[.string a, .string b] w fun e w' => e = .returned (.int .i64 (Lib.compareBytes a.data.toList b.data.toList)) ∧ w = w' := by
  go_enter Tryz.func65, Tryz.ntmps65
  go_wp2_with fail
  refine (cmps0_any a b _).mono ?_
  rintro e w1 ⟨rfl, rfl⟩
  go_wp2
  go_ret
  exact ⟨rfl, rfl⟩
theorem cmps_bs (a b : List UInt8) (r : Int) (hr : Lib.compareBytes a b = r) (w : World) :
    Calls Tryz.prog 65 #[.string (bs a), .string (bs b)] w fun e w' => e = .returned (.int .i64 r) ∧ w = w' := by
  subst hr
  exact cmps_any (bs a) (bs b) w

set_option maxHeartbeats 1000000 in
set_option maxRecDepth 100000 in
theorem cmpp_any (x y : Pr) (w : World) :
    Calls Tryz.prog 51 #[prV x, prV y] w fun e w' => e = .returned (.int .i64 (cfP x y)) ∧ ∃ q os', w' = Sort.grow (w.drewN q) os' := by
  unfold cfP prV
  have H1 := Lib.hid (fun W => cmps_bs x.n y.n _ rfl W)
  have H2 := Lib.hid (fun W => cmps_bs x.v y.v _ rfl W)
  generalize Lib.compareBytes x.n y.n = r1 at H1 ⊢
  generalize Lib.compareBytes x.v y.v = r2 at H2 ⊢
  by_cases h : r1 = 0
  · rw [if_pos h]
    subst h
    go_enter Tryz.func51, Tryz.ntmps51
    go_wp2_with fail
    refine (H1.out _).mono ?_
    rintro e w1 ⟨rfl, rfl⟩
    go_wp2_with fail
    refine (H2.out _).mono ?_
    rintro e w1 ⟨rfl, rfl⟩
    go_wp2
    go_ret
    exact ⟨rfl, 0, _, by rw [Sort.alloc_eq_grow, Sort.alloc_eq_grow, Sort.grow_grow]; rfl⟩
  · rw [if_neg h]
    go_enter Tryz.func51, Tryz.ntmps51
    go_wp2_with fail
    refine (H1.out _).mono ?_
    rintro e w1 ⟨rfl, rfl⟩
    go_wp2
    go_ret
    exact ⟨rfl, 0, _, by rw [Sort.alloc_eq_grow, Sort.alloc_eq_grow, Sort.grow_grow]; rfl⟩
end Go.Proofs.YteheojiokbdgmaaGreatDoor

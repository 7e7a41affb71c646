/- Layer 7's window, walked. -/
import Derived.Test.YtajkleknjjpldaaDoorMO0
import Derived.Test.YtajkleknjjpldaaDoorMC6
import Derived.Test.YtajkleknjjpldaaDoorMTurn
import Derived.Shelf.Spec.TrailingZeros
import Derived.Deep.RegionHeld3
namespace Go.Proofs.YtajkleknjjpldaaDoor
open Go.RowKit Go.Lib

set_option maxHeartbeats 1000000 in
theorem tz_core (x k idx : Nat) (w : World) (hx0 : ((x : Int) == 0) = false)
    (key : IntKind.u64.wrap (bits BinOp.and IntKind.u64 (x : Int) (IntKind.u64.wrap (-(x : Int))) * 285870213051353865) / 288230376151711744 = (idx : Int))
    (hi : idx < 64) (hk : k < 64) (hcell : w.cell? ⟨3, idx, none⟩ = some (.int .u8 k)) :
    Calls Tryd.prog 74 #[.int .u64 x] w fun e w' => e = .returned (.int .i64 k) ∧ w = w' := by
  go_enter Tryd.func74, Tryd.ntmps74
  go_wp2_with (simp only [key])
  go_ret
  exact ⟨rfl, rfl⟩
theorem tz_any (x : Nat) (hx : x < 18446744073709551616) (hx0 : x ≠ 0) (w : World) (hT : TabAt 3 Lib.deBruijn64tab w) :
    Calls Tryd.prog 74 #[.int .u64 x] w fun e w' => e = .returned (.int .i64 (Lib.ctz 64 x)) ∧ w = w' := by
  obtain ⟨hlow, hk⟩ := Lib.lowest_bit 64 x hx0 hx
  obtain ⟨hi, htab⟩ := Lib.deBruijn64_at _ hk
  have hcell := hT _ hi
  rw [htab] at hcell
  exact tz_core x _ _ w (by simp; omega) (tz64_key x _ hx hx0 hlow) hi hk hcell

theorem behind_any (a z : Nat) (w : World) (h : a + z ≤ 64) :
    Calls Tryd.prog 62 #[.agg #[.int .i64 a, .int .i64 z]] w fun e w' => e = .returned (.int .i64 (64 - a - z : Nat)) ∧ w' = w.alloc (.cells #[.int .i64 a, .int .i64 z] 70) := by
  have e : ((64 - a - z : Nat) : Int) = 64 - (a : Int) - (z : Int) := by omega
  rw [e]
  clear e
  go_enter Tryd.func62, Tryd.ntmps62
  go_wp2
  go_ret
  exact ⟨rfl, rfl⟩

theorem covers_any (a z b y : Nat) (w : World) (h : a + z ≤ 64) (h2 : b + y ≤ 64) :
    Calls Tryd.prog 61 #[.agg #[.int .i64 a, .int .i64 z], .agg #[.int .i64 b, .int .i64 y]] w fun e w' => e = .returned (.bool (Xo.covers (a, z) (b, y))) ∧ Below w.heap.size w w' := by
  by_cases hc : a ≤ b
  · have e : Xo.covers (a, z) (b, y) = decide (((64 - a - z : Nat) : Int) ≤ ((64 - b - y : Nat) : Int)) := by simp [Xo.covers, hc]
    rw [e]
    clear e
    obtain ⟨p, hp⟩ : ∃ p : Nat, p = 64 - a - z := ⟨_, rfl⟩
    obtain ⟨q, hq⟩ : ∃ q : Nat, q = 64 - b - y := ⟨_, rfl⟩
    have CA := Lib.hid (fun W => show Calls Tryd.prog 62 #[.agg #[.int .i64 a, .int .i64 z]] W (fun e w' => e = .returned (.int .i64 p) ∧ w' = W.alloc (.cells #[.int .i64 a, .int .i64 z] 70)) by rw [hp]; exact behind_any a z W h)
    have CB := Lib.hid (fun W => show Calls Tryd.prog 62 #[.agg #[.int .i64 b, .int .i64 y]] W (fun e w' => e = .returned (.int .i64 q) ∧ w' = W.alloc (.cells #[.int .i64 b, .int .i64 y] 70)) by rw [hq]; exact behind_any b y W h2)
    rw [← hp, ← hq]
    clear hp hq
    have hlt : (decide ((a : Int) ≤ b)) = true := by simp; omega
    go_enter Tryd.func61, Tryd.ntmps61
    go_wp2_with fail
    go_region_held3 (fun W => W.cell? ⟨w.heap.size, 0, none⟩ = some (.int .i64 a) ∧ W.cell? ⟨w.heap.size, 1, none⟩ = some (.int .i64 z) ∧ W.cell? ⟨w.heap.size + 1, 0, none⟩ = some (.int .i64 b) ∧ W.cell? ⟨w.heap.size + 1, 1, none⟩ = some (.int .i64 y))
      (simp [go_sem])
      ((go_at_call 62; first
        | ((with_reducible refine (CA.out _).mono ?_); rintro e w4 ⟨rfl, rfl⟩)
        | ((with_reducible refine (CB.out _).mono ?_); rintro e w4 ⟨rfl, rfl⟩)))
    go_wp2_with fail
    go_ret
    refine ⟨by simp, ?_⟩
    exact (((((Below.refl _ _).alloc (Nat.le_refl _) _).alloc (by simp) _).alloc (by simp; omega) _).alloc (by simp; omega) _).drew
  · have e : Xo.covers (a, z) (b, y) = false := by simp [Xo.covers, hc]
    rw [e]
    clear e
    have hlt : (decide ((a : Int) ≤ b)) = false := by simp; omega
    go_enter Tryd.func61, Tryd.ntmps61
    go_wp2_with fail
    go_quiet (fail)
    go_wp2_with fail
    go_ret
    exact ⟨rfl, below_draw (((Below.refl _ _).alloc (Nat.le_refl _) _).alloc (by simp) _) _⟩

theorem narrowest_any (x : Nat) (w : World) (hx : x < 18446744073709551616) (h0 : x ≠ 0) (hT : TabAt 3 Lib.deBruijn64tab w) (hg : 3 < w.heap.size) :
    Calls Tryd.prog 60 #[.int .u64 x] w fun e w' => e = .returned (.agg #[.int .i64 (Xo.own x).1, .int .i64 (Xo.own x).2]) ∧ Below w.heap.size w w' := by
  have h1 := Xo.bitLen_64 x hx
  have h2 := Xo.ctz_lt x hx h0
  have W1 := Lib.hid (fun W => width_any x W hx)
  have Z1 := Lib.hid (fun W h => tz_any x hx h0 W h)
  obtain ⟨p, hp⟩ : ∃ p, p = Lib.bitLen x := ⟨_, rfl⟩
  obtain ⟨q, hq⟩ : ∃ q, q = Lib.ctz 64 x := ⟨_, rfl⟩
  have HE := Lib.hid (show ((Xo.own x).1 : Int) = 64 - (p : Int) ∧ ((Xo.own x).2 : Int) = 64 - (64 - (p : Int)) - (q : Int) by unfold Xo.own; rw [← hp, ← hq]; simp only; omega)
  obtain ⟨A, hA⟩ : ∃ A : Int, A = ((Xo.own x).1 : Int) := ⟨_, rfl⟩
  obtain ⟨Z, hZ⟩ : ∃ Z : Int, Z = ((Xo.own x).2 : Int) := ⟨_, rfl⟩
  rw [← hp] at h1 h2 W1
  rw [← hq] at h2 Z1
  rw [← hA, ← hZ] at HE
  rw [← hA, ← hZ]
  clear hp hq hA hZ
  have HTA := Lib.hid (fun o => show TabAt 3 Lib.deBruijn64tab (w.alloc o) from fun j hj => by rw [World.cell?_alloc_past _ _ _ hg]; exact hT j hj)
  go_enter Tryd.func60, Tryd.ntmps60
  go_wp2_with (first
    | (go_at_call 58; refine (W1.out _).mono ?_; rintro e w1 ⟨rfl, rfl⟩)
    | (go_at_call 74; refine (Z1.out _ (HTA.out _)).mono ?_; rintro e w1 ⟨rfl, rfl⟩))
  refine bodyPost_ret (v := .agg #[.int .i64 (64 - (p : Int)), .int .i64 (64 - (64 - (p : Int)) - q)]) (by simp [results, Tryd.results60, go_sem]) rfl ⟨?_, (Below.refl _ _).alloc (Nat.le_refl _) _⟩
  rw [HE.out.1, HE.out.2]
end Go.Proofs.YtajkleknjjpldaaDoor

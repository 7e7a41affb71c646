/- Layer 10: merging two halves of what rises already. -/
import Derived.Test.YtkialkjhjenkhaaMPL2
namespace Go.Proofs.Ytkialkjhjenkhaa
open Go.RowKit Go.Lib
set_option linter.unusedVariables false

theorem up_ge {qs : List Mq} (h : UpQ qs) : ∀ {i j : Nat} {x y : Mq}, qs[i]? = some x → qs[j]? = some y → i < j → ¬ Lib.compareBytes y.m.id x.m.id < 0 := by
  have key : ∀ (d i : Nat) (x y : Mq), qs[i]? = some x → qs[i + d + 1]? = some y → x.m.id < y.m.id := by
    intro d
    induction d with
    | zero => intro i x y hx hy; exact h i x y hx hy
    | succ d ih =>
      intro i x y hx hy
      obtain ⟨z, hz⟩ : ∃ z, qs[i + d + 1]? = some z := ⟨_, List.getElem?_eq_getElem (by have := (List.getElem?_eq_some_iff.1 hy).1; omega)⟩
      exact bytes_lt_trans (ih i x z hx hz) (h (i + d + 1) z y hz hy)
  intro i j x y hx hy hij
  rw [cmp_lt]
  obtain ⟨d, rfl⟩ : ∃ d, j = i + d + 1 := ⟨j - i - 1, by omega⟩
  exact fun hh => bytes_lt_irrefl _ (bytes_lt_trans hh (key d i x y hx hy))
set_option maxHeartbeats 8000000 in
set_option maxRecDepth 100000 in
theorem symm_any : ∀ (n : Nat) (v : Value) (qs : List Mq) (a m b : Nat) (w : World), b - a ≤ n → MsR w v qs → UpQ qs → a < m → m < b → b ≤ qs.length → qs.length ≤ 1000 →
    Calls Try.prog 67 #[v, .int .i64 a, .int .i64 m, .int .i64 b, .func (.func 36) #[] #[]] w fun e w' => e = .returned (.tuple #[]) ∧ Below w.heap.size w w' := by
  intro n
  induction n with
  | zero => intro v qs a m b w h1 _ _ h2 h3; omega
  | succ n ih =>
    intro v qs a m b w hn h hup ham hmb hbl hm1
    have IH := Lib.hid (fun W (bb : Below w.heap.size w W) a' m' b' (h1 : b' - a' ≤ n) (h2 : a' < m') (h3 : m' < b') (h4 : b' ≤ qs.length) => ih v qs a' m' b' W h1 (h.on bb) hup h2 h3 h4 hm1)
    clear ih
    obtain ⟨_, ad, cap, g, off, rfl, hg, hc⟩ := h.rd
    have HQ := Lib.hid (fun W (bb : Below w.heap.size w W) i q (hq : qs[i]? = some q) (h0 : 0 < qs.length) => mq_at hc bb (hg h0).2 i q hq)
    have HU := Lib.hid hup
    obtain ⟨rfl, hgl⟩ := hg (by omega)
    clear h hg hc hup
    obtain ⟨N, hN⟩ : ∃ N, N = qs.length := ⟨_, rfl⟩
    have HN := Lib.hid hN
    rw [← hN] at hbl hm1 IH ⊢
    clear hN
    have wma : IntKind.i64.wrap ((m : Int) - (a : Int)) = (m : Int) - a := IntWalk.i64_in _ (by omega)
    have wbm : IntKind.i64.wrap ((b : Int) - (m : Int)) = (b : Int) - m := IntWalk.i64_in _ (by omega)
    go_enter Try.func67, Try.ntmps67
    by_cases c1 : m = a + 1
    · have t1 : ((m : Int) - (a : Int) == 1) = true := by simp; omega
      have C1 := Lib.hid c1
      clear c1
      go_wp2_with fail
      go_loopw [10, 11] (fun i' j' wr => ∃ j : Nat, i' = .int .i64 m ∧ j' = .int .i64 j ∧ m ≤ j ∧ j ≤ b ∧ Below w.heap.size w wr) (fun _ j' _ => (RowKit.intOf j').toNat)
      case atStart => exact ⟨b, rfl, rfl, by omega, Nat.le_refl _, Below.refl _ _⟩
      case round =>
        obtain ⟨W0, rfl⟩ : ∃ W0, W0 = wr := ⟨_, rfl⟩
        obtain ⟨j, rfl, rfl, hj, hjb, hbw⟩ := hrel
        by_cases hlt : m < j
        · have hil : (m : Int) < j := by omega
          obtain ⟨h, hh⟩ : ∃ h, h = (m + j) / 2 := ⟨_, rfl⟩
          have hd1 : ((m : Int) + (j : Int)) / 2 = (h : Int) := by omega
          have hd2 : (m + j) / 2 = h := hh.symm
          have hh1 : m ≤ h ∧ h < j := by omega
          clear hh
          obtain ⟨x, hx⟩ : ∃ x, qs[a]? = some x := ⟨_, List.getElem?_eq_getElem (by have := HN.out; omega)⟩
          obtain ⟨y, hy⟩ : ∃ y, qs[h]? = some y := ⟨_, List.getElem?_eq_getElem (by have := HN.out; omega)⟩
          have hge := up_ge HU.out hx hy (by omega)
          have FX := Lib.hid (fun W (bb : Below w.heap.size w W) => show W.cell? ⟨g, off + h * 8, none⟩ = some (.string (bs y.m.id)) ∧ W.cell? ⟨g, off + h * 8 + 1, none⟩ = some (.int .i64 y.m.mn) ∧ W.cell? ⟨g, off + h * 8 + 2, none⟩ = some (.int .i64 y.m.mx) ∧ W.cell? ⟨g, off + h * 8 + 3, none⟩ = some (.int .i64 y.m.lv) ∧ W.cell? ⟨g, off + h * 8 + 4, none⟩ = some (.int .i64 y.m.se) ∧ W.cell? ⟨g, off + h * 8 + 5, none⟩ = some (.int .i64 y.m.sa) ∧ W.cell? ⟨g, off + h * 8 + 6, none⟩ = some (y.vf) ∧ W.cell? ⟨g, off + h * 8 + 7, none⟩ = some (y.vs) ∧ W.cell? ⟨g, off + a * 8, none⟩ = some (.string (bs x.m.id)) ∧ W.cell? ⟨g, off + a * 8 + 1, none⟩ = some (.int .i64 x.m.mn) ∧ W.cell? ⟨g, off + a * 8 + 2, none⟩ = some (.int .i64 x.m.mx) ∧ W.cell? ⟨g, off + a * 8 + 3, none⟩ = some (.int .i64 x.m.lv) ∧ W.cell? ⟨g, off + a * 8 + 4, none⟩ = some (.int .i64 x.m.se) ∧ W.cell? ⟨g, off + a * 8 + 5, none⟩ = some (.int .i64 x.m.sa) ∧ W.cell? ⟨g, off + a * 8 + 6, none⟩ = some (x.vf) ∧ W.cell? ⟨g, off + a * 8 + 7, none⟩ = some (x.vs) from by
            obtain ⟨x0, x1, x2, x3, x4, x5, x6, x7⟩ := HQ.out W bb a x hx (by have := HN.out; omega)
            obtain ⟨y0, y1, y2, y3, y4, y5, y6, y7⟩ := HQ.out W bb h y hy (by have := HN.out; omega)
            exact ⟨y0, y1, y2, y3, y4, y5, y6, y7, x0, x1, x2, x3, x4, x5, x6, x7⟩)
          have CB0 := fun W => new1_any y x W
          unfold Mq.v meV at CB0
          generalize Lib.compareBytes y.m.id x.m.id = rr at CB0 hge
          have CB := Lib.hid CB0
          have hdr : decide (rr < 0) = false := decide_eq_false hge
          have hhN : (h : Int) < N := by omega
          have llN : (a : Int) < N := by omega
          have hh0 : (0 : Int) ≤ h := by omega
          have ll0 : (0 : Int) ≤ a := by omega
          clear hx hy CB0 hge
          go_upto_region 5 with fail
          have BQ := hbw.drew
          go_region_held3 (fun W => W.cell? ⟨g, off + h * 8, none⟩ = some (.string (bs y.m.id)) ∧ W.cell? ⟨g, off + h * 8 + 1, none⟩ = some (.int .i64 y.m.mn) ∧ W.cell? ⟨g, off + h * 8 + 2, none⟩ = some (.int .i64 y.m.mx) ∧ W.cell? ⟨g, off + h * 8 + 3, none⟩ = some (.int .i64 y.m.lv) ∧ W.cell? ⟨g, off + h * 8 + 4, none⟩ = some (.int .i64 y.m.se) ∧ W.cell? ⟨g, off + h * 8 + 5, none⟩ = some (.int .i64 y.m.sa) ∧ W.cell? ⟨g, off + h * 8 + 6, none⟩ = some (y.vf) ∧ W.cell? ⟨g, off + h * 8 + 7, none⟩ = some (y.vs) ∧ W.cell? ⟨g, off + a * 8, none⟩ = some (.string (bs x.m.id)) ∧ W.cell? ⟨g, off + a * 8 + 1, none⟩ = some (.int .i64 x.m.mn) ∧ W.cell? ⟨g, off + a * 8 + 2, none⟩ = some (.int .i64 x.m.mx) ∧ W.cell? ⟨g, off + a * 8 + 3, none⟩ = some (.int .i64 x.m.lv) ∧ W.cell? ⟨g, off + a * 8 + 4, none⟩ = some (.int .i64 x.m.se) ∧ W.cell? ⟨g, off + a * 8 + 5, none⟩ = some (.int .i64 x.m.sa) ∧ W.cell? ⟨g, off + a * 8 + 6, none⟩ = some (x.vf) ∧ W.cell? ⟨g, off + a * 8 + 7, none⟩ = some (x.vs))
            (first | (with_reducible refine FX.out _ ?_; assumption) | (with_reducible assumption) | fail)
            (first | (go_at_call 36; ((with_reducible refine (CB.out _).mono ?_)); rintro e w2 ⟨rfl, b2⟩; have B2 : Below w.heap.size w w2 := BQ.trans (b2.mono BQ.size)) | fail)
          have HB2 := Lib.hid B2
          clear B2 b2 BQ hbw
          go_wp2_with fail
          exact ⟨⟨h, rfl, by go_num, by omega, by omega, HB2.out⟩, by simp [RowKit.intOf]; omega⟩
        · have hil : ¬ (m : Int) < j := by omega
          have HB := Lib.hid hbw
          clear hbw
          go_wp2_with fail
          go_loopw [13] (fun k' wr => k' = .int .i64 a ∧ Below w.heap.size w wr) (fun _ _ => 0)
          case atStart => exact ⟨rfl, HB.out⟩
          case round =>
            obtain ⟨rfl, hbw⟩ := hrel
            have HB2 := Lib.hid hbw
            clear hbw
            have wm1 : IntKind.i64.wrap ((m : Int) - 1) = (m : Int) - 1 := IntWalk.i64_in _ (by omega)
            have hk : ¬ (a : Int) < (m : Int) - 1 := by have := C1.out; omega
            go_wp2_with fail
            go_returns
            exact ⟨rfl, HB2.out⟩
    · have t1 : ((m : Int) - (a : Int) == 1) = false := by simp; omega
      have C1 := Lib.hid c1
      clear c1
      by_cases c2 : b = m + 1
      · have t2 : ((b : Int) - (m : Int) == 1) = true := by simp; omega
        have C2 := Lib.hid c2
        clear c2
        go_wp2_with fail
        go_loopw [14, 15] (fun i' j' wr => ∃ i : Nat, i' = .int .i64 i ∧ j' = .int .i64 m ∧ a ≤ i ∧ i ≤ m ∧ Below w.heap.size w wr) (fun i' _ _ => m - (RowKit.intOf i').toNat)
        case atStart => exact ⟨a, rfl, rfl, Nat.le_refl _, by omega, Below.refl _ _⟩
        case round =>
          obtain ⟨W0, rfl⟩ : ∃ W0, W0 = wr := ⟨_, rfl⟩
          obtain ⟨i, rfl, rfl, hi, him, hbw⟩ := hrel
          by_cases hlt : i < m
          · have hil : (i : Int) < m := by omega
            obtain ⟨h, hh⟩ : ∃ h, h = (i + m) / 2 := ⟨_, rfl⟩
            have hd1 : ((i : Int) + (m : Int)) / 2 = (h : Int) := by omega
            have hd2 : (i + m) / 2 = h := hh.symm
            have hh1 : i ≤ h ∧ h < m := by omega
            clear hh
            obtain ⟨x, hx⟩ : ∃ x, qs[h]? = some x := ⟨_, List.getElem?_eq_getElem (by have := HN.out; omega)⟩
            obtain ⟨y, hy⟩ : ∃ y, qs[m]? = some y := ⟨_, List.getElem?_eq_getElem (by have := HN.out; omega)⟩
            have hge := up_ge HU.out hx hy (by omega)
            have FX := Lib.hid (fun W (bb : Below w.heap.size w W) => show W.cell? ⟨g, off + m * 8, none⟩ = some (.string (bs y.m.id)) ∧ W.cell? ⟨g, off + m * 8 + 1, none⟩ = some (.int .i64 y.m.mn) ∧ W.cell? ⟨g, off + m * 8 + 2, none⟩ = some (.int .i64 y.m.mx) ∧ W.cell? ⟨g, off + m * 8 + 3, none⟩ = some (.int .i64 y.m.lv) ∧ W.cell? ⟨g, off + m * 8 + 4, none⟩ = some (.int .i64 y.m.se) ∧ W.cell? ⟨g, off + m * 8 + 5, none⟩ = some (.int .i64 y.m.sa) ∧ W.cell? ⟨g, off + m * 8 + 6, none⟩ = some (y.vf) ∧ W.cell? ⟨g, off + m * 8 + 7, none⟩ = some (y.vs) ∧ W.cell? ⟨g, off + h * 8, none⟩ = some (.string (bs x.m.id)) ∧ W.cell? ⟨g, off + h * 8 + 1, none⟩ = some (.int .i64 x.m.mn) ∧ W.cell? ⟨g, off + h * 8 + 2, none⟩ = some (.int .i64 x.m.mx) ∧ W.cell? ⟨g, off + h * 8 + 3, none⟩ = some (.int .i64 x.m.lv) ∧ W.cell? ⟨g, off + h * 8 + 4, none⟩ = some (.int .i64 x.m.se) ∧ W.cell? ⟨g, off + h * 8 + 5, none⟩ = some (.int .i64 x.m.sa) ∧ W.cell? ⟨g, off + h * 8 + 6, none⟩ = some (x.vf) ∧ W.cell? ⟨g, off + h * 8 + 7, none⟩ = some (x.vs) from by
              obtain ⟨x0, x1, x2, x3, x4, x5, x6, x7⟩ := HQ.out W bb h x hx (by have := HN.out; omega)
              obtain ⟨y0, y1, y2, y3, y4, y5, y6, y7⟩ := HQ.out W bb m y hy (by have := HN.out; omega)
              exact ⟨y0, y1, y2, y3, y4, y5, y6, y7, x0, x1, x2, x3, x4, x5, x6, x7⟩)
            have CB0 := fun W => new1_any y x W
            unfold Mq.v meV at CB0
            generalize Lib.compareBytes y.m.id x.m.id = rr at CB0 hge
            have CB := Lib.hid CB0
            have hdr : decide (rr < 0) = false := decide_eq_false hge
            have hhN : (m : Int) < N := by omega
            have llN : (h : Int) < N := by omega
            have hh0 : (0 : Int) ≤ m := by omega
            have ll0 : (0 : Int) ≤ h := by omega
            clear hx hy CB0 hge
            go_upto_region 17 with fail
            have BQ := hbw.drew
            go_region_held3 (fun W => W.cell? ⟨g, off + m * 8, none⟩ = some (.string (bs y.m.id)) ∧ W.cell? ⟨g, off + m * 8 + 1, none⟩ = some (.int .i64 y.m.mn) ∧ W.cell? ⟨g, off + m * 8 + 2, none⟩ = some (.int .i64 y.m.mx) ∧ W.cell? ⟨g, off + m * 8 + 3, none⟩ = some (.int .i64 y.m.lv) ∧ W.cell? ⟨g, off + m * 8 + 4, none⟩ = some (.int .i64 y.m.se) ∧ W.cell? ⟨g, off + m * 8 + 5, none⟩ = some (.int .i64 y.m.sa) ∧ W.cell? ⟨g, off + m * 8 + 6, none⟩ = some (y.vf) ∧ W.cell? ⟨g, off + m * 8 + 7, none⟩ = some (y.vs) ∧ W.cell? ⟨g, off + h * 8, none⟩ = some (.string (bs x.m.id)) ∧ W.cell? ⟨g, off + h * 8 + 1, none⟩ = some (.int .i64 x.m.mn) ∧ W.cell? ⟨g, off + h * 8 + 2, none⟩ = some (.int .i64 x.m.mx) ∧ W.cell? ⟨g, off + h * 8 + 3, none⟩ = some (.int .i64 x.m.lv) ∧ W.cell? ⟨g, off + h * 8 + 4, none⟩ = some (.int .i64 x.m.se) ∧ W.cell? ⟨g, off + h * 8 + 5, none⟩ = some (.int .i64 x.m.sa) ∧ W.cell? ⟨g, off + h * 8 + 6, none⟩ = some (x.vf) ∧ W.cell? ⟨g, off + h * 8 + 7, none⟩ = some (x.vs))
              (first | (with_reducible refine FX.out _ ?_; assumption) | (with_reducible assumption) | fail)
              (first | (go_at_call 36; ((with_reducible refine (CB.out _).mono ?_)); rintro e w2 ⟨rfl, b2⟩; have B2 : Below w.heap.size w w2 := BQ.trans (b2.mono BQ.size)) | fail)
            have HB2 := Lib.hid B2
            clear B2 b2 BQ hbw
            go_wp2_with fail
            exact ⟨⟨h + 1, by go_num, rfl, by omega, by omega, HB2.out⟩, by simp [RowKit.intOf]; omega⟩
          · have hil : ¬ (i : Int) < m := by omega
            have HB := Lib.hid hbw
            obtain rfl : i = m := by omega
            clear hbw
            go_wp2_with fail
            go_loopw [17] (fun k' wr => k' = .int .i64 i ∧ Below w.heap.size w wr) (fun _ _ => 0)
            case atStart => exact ⟨rfl, HB.out⟩
            case round =>
              obtain ⟨rfl, hbw⟩ := hrel
              have HB2 := Lib.hid hbw
              clear hbw
              go_wp2_with fail
              go_returns
              exact ⟨rfl, HB2.out⟩
      · have t2 : ((b : Int) - (m : Int) == 1) = false := by simp; omega
        have C2 := Lib.hid c2
        clear c2
        obtain ⟨mid, hmid⟩ : ∃ mid, mid = (a + b) / 2 := ⟨_, rfl⟩
        have hd1 : ((a : Int) + (b : Int)) / 2 = (mid : Int) := by omega
        have hd2 : (a + b) / 2 = mid := hmid.symm
        have hmb2 : 2 * mid ≤ a + b := by omega
        have hmb3 : a + b ≤ 2 * mid + 1 := by omega
        have hq1 : a + 1 < m := by have := C1.out; omega
        have hq2 : m + 1 < b := by have := C2.out; omega
        clear hmid
        obtain ⟨p, hp⟩ : ∃ p, p = mid + m - 1 := ⟨_, rfl⟩
        have wp : IntKind.i64.wrap ((mid : Int) + (m : Int)) = (mid : Int) + m := IntWalk.i64_in _ (by omega)
        have wp1 : IntKind.i64.wrap ((mid : Int) + (m : Int) - 1) = (p : Int) := by rw [show (mid : Int) + (m : Int) - 1 = p by omega]; exact IntWalk.i64_in _ (by omega)
        have hp1 : p + 1 = mid + m := by omega
        clear hp
        by_cases c3 : mid < m
        · have t3 : (m : Int) > mid := by omega
          have ws : IntKind.i64.wrap ((mid : Int) + (m : Int) - (b : Int)) = ((mid + m - b : Nat) : Int) := by rw [show ((mid + m - b : Nat) : Int) = (mid : Int) + m - b by omega]; exact IntWalk.i64_in _ (by omega)
          obtain ⟨st, hst⟩ : ∃ st, st = mid + m - b := ⟨_, rfl⟩
          rw [← hst] at ws
          have hst1 : st + b = mid + m := by omega
          clear hst
          go_wp2_with fail
          go_loopw [20, 21] (fun i' j' wr => ∃ i : Nat, i' = .int .i64 i ∧ j' = .int .i64 mid ∧ st ≤ i ∧ i ≤ mid ∧ Below w.heap.size w wr) (fun i' _ _ => mid - (RowKit.intOf i').toNat)
          case atStart => exact ⟨st, rfl, rfl, Nat.le_refl _, by omega, Below.refl _ _⟩
          case round =>
            obtain ⟨W0, rfl⟩ : ∃ W0, W0 = wr := ⟨_, rfl⟩
            obtain ⟨i, rfl, rfl, hi, him, hbw⟩ := hrel
            by_cases hlt : i < mid
            · have hil : (i : Int) < mid := by omega
              obtain ⟨h, hh⟩ : ∃ h, h = (i + mid) / 2 := ⟨_, rfl⟩
              have he1 : ((i : Int) + (mid : Int)) / 2 = (h : Int) := by omega
              have he2 : (i + mid) / 2 = h := hh.symm
              have hh1 : i ≤ h ∧ h < mid := by omega
              clear hh
              obtain ⟨z, hz⟩ : ∃ z, z = p - h := ⟨_, rfl⟩
              have hz1 : z + h = p := by omega
              have wz : IntKind.i64.wrap ((p : Int) - (h : Int)) = (z : Int) := by rw [show (p : Int) - h = z by omega]; exact IntWalk.i64_in _ (by omega)
              clear hz
              obtain ⟨x, hx⟩ : ∃ x, qs[h]? = some x := ⟨_, List.getElem?_eq_getElem (by have := HN.out; omega)⟩
              obtain ⟨y, hy⟩ : ∃ y, qs[z]? = some y := ⟨_, List.getElem?_eq_getElem (by have := HN.out; omega)⟩
              have hge := up_ge HU.out hx hy (by omega)
              have FX := Lib.hid (fun W (bb : Below w.heap.size w W) => show W.cell? ⟨g, off + z * 8, none⟩ = some (.string (bs y.m.id)) ∧ W.cell? ⟨g, off + z * 8 + 1, none⟩ = some (.int .i64 y.m.mn) ∧ W.cell? ⟨g, off + z * 8 + 2, none⟩ = some (.int .i64 y.m.mx) ∧ W.cell? ⟨g, off + z * 8 + 3, none⟩ = some (.int .i64 y.m.lv) ∧ W.cell? ⟨g, off + z * 8 + 4, none⟩ = some (.int .i64 y.m.se) ∧ W.cell? ⟨g, off + z * 8 + 5, none⟩ = some (.int .i64 y.m.sa) ∧ W.cell? ⟨g, off + z * 8 + 6, none⟩ = some (y.vf) ∧ W.cell? ⟨g, off + z * 8 + 7, none⟩ = some (y.vs) ∧ W.cell? ⟨g, off + h * 8, none⟩ = some (.string (bs x.m.id)) ∧ W.cell? ⟨g, off + h * 8 + 1, none⟩ = some (.int .i64 x.m.mn) ∧ W.cell? ⟨g, off + h * 8 + 2, none⟩ = some (.int .i64 x.m.mx) ∧ W.cell? ⟨g, off + h * 8 + 3, none⟩ = some (.int .i64 x.m.lv) ∧ W.cell? ⟨g, off + h * 8 + 4, none⟩ = some (.int .i64 x.m.se) ∧ W.cell? ⟨g, off + h * 8 + 5, none⟩ = some (.int .i64 x.m.sa) ∧ W.cell? ⟨g, off + h * 8 + 6, none⟩ = some (x.vf) ∧ W.cell? ⟨g, off + h * 8 + 7, none⟩ = some (x.vs) from by
                obtain ⟨x0, x1, x2, x3, x4, x5, x6, x7⟩ := HQ.out W bb h x hx (by have := HN.out; omega)
                obtain ⟨y0, y1, y2, y3, y4, y5, y6, y7⟩ := HQ.out W bb z y hy (by have := HN.out; omega)
                exact ⟨y0, y1, y2, y3, y4, y5, y6, y7, x0, x1, x2, x3, x4, x5, x6, x7⟩)
              have CB0 := fun W => new1_any y x W
              unfold Mq.v meV at CB0
              generalize Lib.compareBytes y.m.id x.m.id = rr at CB0 hge
              have CB := Lib.hid CB0
              have hdr : decide (rr < 0) = false := decide_eq_false hge
              have hhN : (z : Int) < N := by omega
              have llN : (h : Int) < N := by omega
              have hh0 : (0 : Int) ≤ z := by omega
              have ll0 : (0 : Int) ≤ h := by omega
              clear hx hy CB0 hge
              go_upto_region 35 with fail
              have BQ := hbw.drew
              go_region_held3 (fun W => W.cell? ⟨g, off + z * 8, none⟩ = some (.string (bs y.m.id)) ∧ W.cell? ⟨g, off + z * 8 + 1, none⟩ = some (.int .i64 y.m.mn) ∧ W.cell? ⟨g, off + z * 8 + 2, none⟩ = some (.int .i64 y.m.mx) ∧ W.cell? ⟨g, off + z * 8 + 3, none⟩ = some (.int .i64 y.m.lv) ∧ W.cell? ⟨g, off + z * 8 + 4, none⟩ = some (.int .i64 y.m.se) ∧ W.cell? ⟨g, off + z * 8 + 5, none⟩ = some (.int .i64 y.m.sa) ∧ W.cell? ⟨g, off + z * 8 + 6, none⟩ = some (y.vf) ∧ W.cell? ⟨g, off + z * 8 + 7, none⟩ = some (y.vs) ∧ W.cell? ⟨g, off + h * 8, none⟩ = some (.string (bs x.m.id)) ∧ W.cell? ⟨g, off + h * 8 + 1, none⟩ = some (.int .i64 x.m.mn) ∧ W.cell? ⟨g, off + h * 8 + 2, none⟩ = some (.int .i64 x.m.mx) ∧ W.cell? ⟨g, off + h * 8 + 3, none⟩ = some (.int .i64 x.m.lv) ∧ W.cell? ⟨g, off + h * 8 + 4, none⟩ = some (.int .i64 x.m.se) ∧ W.cell? ⟨g, off + h * 8 + 5, none⟩ = some (.int .i64 x.m.sa) ∧ W.cell? ⟨g, off + h * 8 + 6, none⟩ = some (x.vf) ∧ W.cell? ⟨g, off + h * 8 + 7, none⟩ = some (x.vs))
                (first | (with_reducible refine FX.out _ ?_; assumption) | (with_reducible assumption) | fail)
                (first | (go_at_call 36; ((with_reducible refine (CB.out _).mono ?_)); rintro e w2 ⟨rfl, b2⟩; have B2 : Below w.heap.size w w2 := BQ.trans (b2.mono BQ.size)) | fail)
              have HB2 := Lib.hid B2
              clear B2 b2 BQ hbw
              go_wp2_with fail
              exact ⟨⟨h + 1, by go_num, rfl, by omega, by omega, HB2.out⟩, by simp [RowKit.intOf]; omega⟩
            · have hil : ¬ (i : Int) < mid := by omega
              obtain rfl : i = mid := by omega
              have HB := Lib.hid hbw
              have we : IntKind.i64.wrap ((i : Int) + (m : Int) - (i : Int)) = (m : Int) := by rw [show (i : Int) + (m : Int) - i = m by omega]; exact IntWalk.i64_in _ (by omega)
              have g1 : (i : Int) < m := by omega
              have g2 : (a : Int) < i := by omega
              have g3 : (m : Int) < b := by omega
              have SC := Lib.hid (IH.out W0 hbw i m b (by omega) c3 hmb hbl)
              clear hbw
              go_wp2_with (first | (go_at_call 67; (with_reducible refine SC.out.mono ?_); rintro e w3 ⟨rfl, b3⟩; have HB3 := Lib.hid (HB.out.trans (b3.mono HB.out.size)); clear b3) | fail)
              go_returns
              exact ⟨rfl, HB3.out⟩
        · have t3 : ¬ (m : Int) > mid := by omega
          go_wp2_with fail
          go_loopw [20, 21] (fun i' j' wr => ∃ i : Nat, i' = .int .i64 i ∧ j' = .int .i64 m ∧ a ≤ i ∧ i ≤ m ∧ Below w.heap.size w wr) (fun i' _ _ => m - (RowKit.intOf i').toNat)
          case atStart => exact ⟨a, rfl, rfl, Nat.le_refl _, by omega, Below.refl _ _⟩
          case round =>
            obtain ⟨W0, rfl⟩ : ∃ W0, W0 = wr := ⟨_, rfl⟩
            obtain ⟨i, rfl, rfl, hi, him, hbw⟩ := hrel
            by_cases hlt : i < m
            · have hil : (i : Int) < m := by omega
              obtain ⟨h, hh⟩ : ∃ h, h = (i + m) / 2 := ⟨_, rfl⟩
              have he1 : ((i : Int) + (m : Int)) / 2 = (h : Int) := by omega
              have he2 : (i + m) / 2 = h := hh.symm
              have hh1 : i ≤ h ∧ h < m := by omega
              clear hh
              obtain ⟨z, hz⟩ : ∃ z, z = p - h := ⟨_, rfl⟩
              have hz1 : z + h = p := by omega
              have wz : IntKind.i64.wrap ((p : Int) - (h : Int)) = (z : Int) := by rw [show (p : Int) - h = z by omega]; exact IntWalk.i64_in _ (by omega)
              clear hz
              obtain ⟨x, hx⟩ : ∃ x, qs[h]? = some x := ⟨_, List.getElem?_eq_getElem (by have := HN.out; omega)⟩
              obtain ⟨y, hy⟩ : ∃ y, qs[z]? = some y := ⟨_, List.getElem?_eq_getElem (by have := HN.out; omega)⟩
              have hge := up_ge HU.out hx hy (by omega)
              have FX := Lib.hid (fun W (bb : Below w.heap.size w W) => show W.cell? ⟨g, off + z * 8, none⟩ = some (.string (bs y.m.id)) ∧ W.cell? ⟨g, off + z * 8 + 1, none⟩ = some (.int .i64 y.m.mn) ∧ W.cell? ⟨g, off + z * 8 + 2, none⟩ = some (.int .i64 y.m.mx) ∧ W.cell? ⟨g, off + z * 8 + 3, none⟩ = some (.int .i64 y.m.lv) ∧ W.cell? ⟨g, off + z * 8 + 4, none⟩ = some (.int .i64 y.m.se) ∧ W.cell? ⟨g, off + z * 8 + 5, none⟩ = some (.int .i64 y.m.sa) ∧ W.cell? ⟨g, off + z * 8 + 6, none⟩ = some (y.vf) ∧ W.cell? ⟨g, off + z * 8 + 7, none⟩ = some (y.vs) ∧ W.cell? ⟨g, off + h * 8, none⟩ = some (.string (bs x.m.id)) ∧ W.cell? ⟨g, off + h * 8 + 1, none⟩ = some (.int .i64 x.m.mn) ∧ W.cell? ⟨g, off + h * 8 + 2, none⟩ = some (.int .i64 x.m.mx) ∧ W.cell? ⟨g, off + h * 8 + 3, none⟩ = some (.int .i64 x.m.lv) ∧ W.cell? ⟨g, off + h * 8 + 4, none⟩ = some (.int .i64 x.m.se) ∧ W.cell? ⟨g, off + h * 8 + 5, none⟩ = some (.int .i64 x.m.sa) ∧ W.cell? ⟨g, off + h * 8 + 6, none⟩ = some (x.vf) ∧ W.cell? ⟨g, off + h * 8 + 7, none⟩ = some (x.vs) from by
                obtain ⟨x0, x1, x2, x3, x4, x5, x6, x7⟩ := HQ.out W bb h x hx (by have := HN.out; omega)
                obtain ⟨y0, y1, y2, y3, y4, y5, y6, y7⟩ := HQ.out W bb z y hy (by have := HN.out; omega)
                exact ⟨y0, y1, y2, y3, y4, y5, y6, y7, x0, x1, x2, x3, x4, x5, x6, x7⟩)
              have CB0 := fun W => new1_any y x W
              unfold Mq.v meV at CB0
              generalize Lib.compareBytes y.m.id x.m.id = rr at CB0 hge
              have CB := Lib.hid CB0
              have hdr : decide (rr < 0) = false := decide_eq_false hge
              have hhN : (z : Int) < N := by omega
              have llN : (h : Int) < N := by omega
              have hh0 : (0 : Int) ≤ z := by omega
              have ll0 : (0 : Int) ≤ h := by omega
              clear hx hy CB0 hge
              go_upto_region 35 with fail
              have BQ := hbw.drew
              go_region_held3 (fun W => W.cell? ⟨g, off + z * 8, none⟩ = some (.string (bs y.m.id)) ∧ W.cell? ⟨g, off + z * 8 + 1, none⟩ = some (.int .i64 y.m.mn) ∧ W.cell? ⟨g, off + z * 8 + 2, none⟩ = some (.int .i64 y.m.mx) ∧ W.cell? ⟨g, off + z * 8 + 3, none⟩ = some (.int .i64 y.m.lv) ∧ W.cell? ⟨g, off + z * 8 + 4, none⟩ = some (.int .i64 y.m.se) ∧ W.cell? ⟨g, off + z * 8 + 5, none⟩ = some (.int .i64 y.m.sa) ∧ W.cell? ⟨g, off + z * 8 + 6, none⟩ = some (y.vf) ∧ W.cell? ⟨g, off + z * 8 + 7, none⟩ = some (y.vs) ∧ W.cell? ⟨g, off + h * 8, none⟩ = some (.string (bs x.m.id)) ∧ W.cell? ⟨g, off + h * 8 + 1, none⟩ = some (.int .i64 x.m.mn) ∧ W.cell? ⟨g, off + h * 8 + 2, none⟩ = some (.int .i64 x.m.mx) ∧ W.cell? ⟨g, off + h * 8 + 3, none⟩ = some (.int .i64 x.m.lv) ∧ W.cell? ⟨g, off + h * 8 + 4, none⟩ = some (.int .i64 x.m.se) ∧ W.cell? ⟨g, off + h * 8 + 5, none⟩ = some (.int .i64 x.m.sa) ∧ W.cell? ⟨g, off + h * 8 + 6, none⟩ = some (x.vf) ∧ W.cell? ⟨g, off + h * 8 + 7, none⟩ = some (x.vs))
                (first | (with_reducible refine FX.out _ ?_; assumption) | (with_reducible assumption) | fail)
                (first | (go_at_call 36; ((with_reducible refine (CB.out _).mono ?_)); rintro e w2 ⟨rfl, b2⟩; have B2 : Below w.heap.size w w2 := BQ.trans (b2.mono BQ.size)) | fail)
              have HB2 := Lib.hid B2
              clear B2 b2 BQ hbw
              go_wp2_with fail
              exact ⟨⟨h + 1, by go_num, rfl, by omega, by omega, HB2.out⟩, by simp [RowKit.intOf]; omega⟩
            · have hil : ¬ (i : Int) < m := by omega
              obtain rfl : i = m := by omega
              have HB := Lib.hid hbw
              have we : IntKind.i64.wrap ((mid : Int) + (i : Int) - (i : Int)) = (mid : Int) := by rw [show (mid : Int) + (i : Int) - i = mid by omega]; exact IntWalk.i64_in _ (by omega)
              have g2 : (a : Int) < i := by omega
              by_cases c4 : i < mid
              · have g3 : (i : Int) < mid := by omega
                have SC := Lib.hid (IH.out W0 hbw a i mid (by omega) ham c4 (by omega))
                clear hbw
                go_wp2_with (first | (go_at_call 67; (with_reducible refine SC.out.mono ?_); rintro e w3 ⟨rfl, b3⟩; have HB3 := Lib.hid (HB.out.trans (b3.mono HB.out.size)); clear b3) | fail)
                go_returns
                exact ⟨rfl, HB3.out⟩
              · have g3 : ¬ (i : Int) < mid := by omega
                clear hbw
                go_wp2_with fail
                go_returns
                exact ⟨rfl, HB.out⟩
end Go.Proofs.Ytkialkjhjenkhaa

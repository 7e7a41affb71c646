/- Layer 6: slices that are only read; Check, Get. -/
import Derived.Test.YtobdlfikomnmcaaGreatDoorML4
import Derived.Test.YtobdlfikomnmcaaGreatDoorMRd
import Derived.IntWalk
namespace Go.Proofs.YtobdlfikomnmcaaGreatDoor
open Go.RowKit Go.Lib

theorem isval_any (l : List UInt8) (w : World) : Calls Tryz.prog 72 #[.string (bs l)] w fun e w' => e = .returned (.bool (valB l)) ∧ w = w' := by
  have hT := bs_toList
  have hz : (bs l).size = l.length := bs_size l
  by_cases h0 : l = []
  · subst h0
    go_enter Tryz.func72, Tryz.ntmps72
    go_wp2
    go_ret
    exact ⟨rfl, rfl⟩
  · have hb0 : (!l.isEmpty) = true := by simpa using h0
    have hb1 : l.isEmpty = false := by simpa using h0
    have HB := Lib.hid (show valB l = decide ((l.length : Int) ≤ 40) by
      unfold valB
      have h1 : 1 ≤ l.length := by
        cases l with
        | nil => exact absurd rfl h0
        | cons _ _ => simp
      rw [decide_eq_true h1, Bool.true_and]
      by_cases h : l.length ≤ 40
      · rw [decide_eq_true h, decide_eq_true (by omega)]
      · rw [decide_eq_false h, decide_eq_false (by omega)])
    clear h0
    go_enter Tryz.func72, Tryz.ntmps72
    go_wp2
    go_ret
    exact ⟨by rw [HB.out]; rfl, rfl⟩

/-- The error's number. -/
def cE (b : Bool) : Int := if b = true then 0 else 12

/-- The name ahead of pair i. -/
def prevN (ds : List Pr) (i : Nat) : Option (List UInt8) := match i with
  | 0 => none
  | i + 1 => (ds[i]?).map Pr.n

theorem less_lt : ∀ (a b : List UInt8), Op.bytesLess a b = true ↔ a < b
  | [], [] => by simp [Op.bytesLess]
  | [], _ :: _ => by simp [Op.bytesLess]
  | _ :: _, [] => by simp [Op.bytesLess]
  | x :: a, y :: b => by
    rw [Op.bytesLess, List.cons_lt_cons_iff]
    simp [less_lt a b]
theorem less_dec (a b : List UInt8) : Op.bytesLess a b = decide (a < b) := by
  rw [Bool.eq_iff_iff, less_lt, decide_eq_true_iff]

set_option maxHeartbeats 1000000 in
set_option maxRecDepth 100000 in
theorem check_any (v : Value) (ds : List Pr) (w : World) (h : Rd w 2 v ds.length (prc ds)) (hm : ds.length ≤ 1000000) :
    Calls Tryz.prog 54 #[v] w fun e w' => e = .returned (.int .i64 (cE (chk ds))) ∧ Below w.heap.size w w' := by
  have hT := bs_toList
  obtain ⟨_, a, cap, g, off, rfl, hg, hc⟩ := h
  obtain ⟨n, hn⟩ : ∃ n, n = ds.length := ⟨_, rfl⟩
  rw [← hn] at hg hc ⊢
  by_cases h1 : n < 1
  · have HK := Lib.hid (show chk ds = false by unfold chk; rw [decide_eq_false (by omega)]; rfl)
    rw [HK.out]
    clear hn hg hc
    go_enter Tryz.func54, Tryz.ntmps54
    go_wp2
    go_ret
    exact ⟨rfl, Below.refl _ _⟩
  · by_cases h8 : 8 < n
    · have HK := Lib.hid (show chk ds = false by unfold chk; rw [decide_eq_true (by omega), decide_eq_false (show ¬ ds.length ≤ 8 by omega)]; rfl)
      rw [HK.out]
      clear hn hg hc
      have h1' : ¬ (n : Int) < 1 := by omega
      have h8' : (8 : Int) < n := by omega
      go_enter Tryz.func54, Tryz.ntmps54
      go_wp2
      go_ret
      exact ⟨rfl, Below.refl _ _⟩
    · have HK := Lib.hid (show chk ds = chkR none ds by unfold chk; rw [decide_eq_true (by omega), decide_eq_true (by omega)]; simp)
      rw [HK.out]
      obtain ⟨rfl, hgl⟩ := hg (by omega)
      have HN := Lib.hid hn
      have HC := Lib.hid hc
      have h1' : ¬ (n : Int) < 1 := by omega
      have h8' : ¬ (8 : Int) < n := by omega
      have h8n : n ≤ 8 := by omega
      clear hn hg hc h1 h8 HK
      go_enter Tryz.func54, Tryz.ntmps54
      go_wp2_with fail
      go_loopw [15] (fun i' wr => ∃ (i : Nat), i' = .int .i64 i ∧ i ≤ n ∧ Hid (chkR none ds = chkR (prevN ds i) (ds.drop i)) ∧ Below w.heap.size w wr) (fun i' _ => n - (intOf i').toNat)
      case atStart => exact ⟨0, rfl, by omega, rfl, Below.refl _ _⟩
      case round =>
        obtain ⟨i, rfl, hi, hk, hb⟩ := hrel
        by_cases hlt : i < n
        · obtain ⟨x, hx⟩ : ∃ x, ds[i]? = some x := ⟨ds[i]'(by have := HN.out; omega), List.getElem?_eq_getElem (by have := HN.out; omega)⟩
          obtain ⟨v0, v1⟩ := prc_at ds i x hx
          have q0 := ((hb.cell (p := ⟨g, off + i * 2, none⟩) hgl).trans (HC.out (i * 2) (by omega))).trans v0
          have q1 := ((hb.cell (p := ⟨g, off + (i * 2 + 1), none⟩) hgl).trans (HC.out (i * 2 + 1) (by omega))).trans v1
          rw [← Nat.add_assoc] at q1
          have hd : ds.drop i = x :: ds.drop (i + 1) := by
            rw [List.drop_eq_getElem_cons (by have := HN.out; omega)]
            congr 1
            rw [List.getElem?_eq_getElem (by have := HN.out; omega)] at hx
            exact Option.some.inj hx
          have hkk := hk.out
          rw [hd, chkR_cons] at hkk
          have hpx : prevN ds (i + 1) = some x.n := by show (ds[i]?).map Pr.n = _; rw [hx]; rfl
          rw [← hpx] at hkk
          have hgw : g ≠ wr.heap.size := by have := hb.size; omega
          have hil : (i : Int) < n := by omega
          have HNm := Lib.hid (fun W => isname_any x.n W)
          have HVl := Lib.hid (fun W => isval_any x.v W)
          generalize nameB x.n = b1 at hkk HNm
          generalize valB x.v = b2 at hkk HVl
          rcases b1 with _ | _
          · have HQ := Lib.hid hkk
            clear hkk hk hd hpx v0 v1 hx
            go_wp2_with fail
            refine (HNm.out _).mono ?_
            rintro e w1 ⟨rfl, rfl⟩
            go_wp2
            go_ret
            exact ⟨by rw [HQ.out]; rfl, hb.alloc hb.size _⟩
          · rcases b2 with _ | _
            · have HQ := Lib.hid hkk
              clear hkk hk hd hpx v0 v1 hx
              go_wp2_with fail
              refine (HNm.out _).mono ?_
              rintro e w1 ⟨rfl, rfl⟩
              go_wp2_with fail
              refine (HVl.out _).mono ?_
              rintro e w1 ⟨rfl, rfl⟩
              go_wp2
              go_ret
              exact ⟨by rw [HQ.out]; rfl, hb.alloc hb.size _⟩
            · by_cases hi0 : i = 0
              · subst hi0
                rw [Nat.zero_mul, Nat.add_zero] at q0 q1
                have HQ := Lib.hid hkk
                clear hkk hk hd hpx v0 v1 hx
                go_wp2_with fail
                refine (HNm.out _).mono ?_
                rintro e w1 ⟨rfl, rfl⟩
                go_wp2_with fail
                refine (HVl.out _).mono ?_
                rintro e w1 ⟨rfl, rfl⟩
                go_wp2_with fail
                go_region
                go_wp2
                exact ⟨⟨1, by simp, by omega, by have := HQ.out; show _ = _; simpa [prevN, aheadB] using this, (hb.alloc hb.size _).drew⟩, by simp [intOf]; omega⟩
              · obtain ⟨j, rfl⟩ : ∃ j, i = j + 1 := ⟨i - 1, by omega⟩
                obtain ⟨y, hy⟩ : ∃ y, ds[j]? = some y := ⟨ds[j]'(by have := HN.out; omega), List.getElem?_eq_getElem (by have := HN.out; omega)⟩
                obtain ⟨u0, _⟩ := prc_at ds j y hy
                have p0 := ((hb.cell (p := ⟨g, off + j * 2, none⟩) hgl).trans (HC.out (j * 2) (by omega))).trans u0
                have hpy : prevN ds (j + 1) = some y.n := by show (ds[j]?).map Pr.n = _; rw [hy]; rfl
                rw [hpy, show aheadB (some y.n) x.n = decide (y.n < x.n) from rfl] at hkk
                have hcp : Op.bytesLess y.n x.n = decide (y.n < x.n) := less_dec _ _
                have e1 : ((j + 1 : Nat) : Int) - 1 = (j : Int) := by omega
                have e2 : ((j + 1 : Nat) : Int) > 0 := by omega
                have p1 := (((Below.refl wr.heap.size wr).alloc (Nat.le_refl _) (Obj.cells #[.string (bs x.n), .string (bs x.v)] 65)).cell (p := ⟨g, off + j * 2, none⟩) (by have := hb.size; show g < wr.heap.size; omega)).trans p0
                have e3 : IntKind.i64.wrap (j : Int) = (j : Int) := IntWalk.i64_in _ (by omega)
                have e4 : (j : Int) < n := by omega
                by_cases hlt2 : y.n < x.n
                · rw [decide_eq_true hlt2] at hcp hkk
                  have HQ := Lib.hid hkk
                  clear hkk hk hd hpx v0 v1 hx hlt2 u0 hy hpy
                  go_wp2_with fail
                  refine (HNm.out _).mono ?_
                  rintro e w1 ⟨rfl, rfl⟩
                  go_wp2_with fail
                  refine (HVl.out _).mono ?_
                  rintro e w1 ⟨rfl, rfl⟩
                  go_wp2_with fail
                  go_region
                  go_wp2
                  exact ⟨⟨j + 2, by simp; omega, by omega, by have := HQ.out; show _ = _; simpa using this, (hb.alloc hb.size _).drew⟩, by simp [intOf]; omega⟩
                · rw [decide_eq_false hlt2] at hcp hkk
                  have HQ := Lib.hid hkk
                  clear hkk hk hd hpx v0 v1 hx hlt2 u0 hy hpy
                  go_wp2_with fail
                  refine (HNm.out _).mono ?_
                  rintro e w1 ⟨rfl, rfl⟩
                  go_wp2_with fail
                  refine (HVl.out _).mono ?_
                  rintro e w1 ⟨rfl, rfl⟩
                  go_wp2_with fail
                  go_region
                  go_wp2
                  go_ret
                  exact ⟨by rw [HQ.out]; rfl, (hb.alloc hb.size _).drew⟩
        · have hil : ¬ (i : Int) < n := by omega
          have hd : ds.drop i = [] := List.drop_eq_nil_of_le (by have := HN.out; omega)
          have hkk := hk.out
          rw [hd, chkR_nil] at hkk
          have HQ := Lib.hid hkk
          clear hkk hk hd
          go_wp2
          go_ret
          exact ⟨by rw [HQ.out]; rfl, hb⟩
end Go.Proofs.YtobdlfikomnmcaaGreatDoor

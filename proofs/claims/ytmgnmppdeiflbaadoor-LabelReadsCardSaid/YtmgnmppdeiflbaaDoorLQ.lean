/- Layer 6: the document's own check. -/
import Derived.Test.YtmgnmppdeiflbaaDoorLP
namespace Go.Proofs.YtmgnmppdeiflbaaDoor
open Go.RowKit Go.Lib

/-- The rest of a check: behind these pairs. -/
def chkQ : List Pr → List Pr → Bool
  | _, [] => true
  | pre, x :: r => nameB x.n && (valB x.v && ((pre.all fun q => decide (q.n < x.n)) && chkQ (pre ++ [x]) r))

theorem chkQ_R : ∀ (ds pre : List Pr) (o : Option (List UInt8)), (∀ q, o = some q → (∃ x ∈ pre, x.n = q) ∧ ∀ x ∈ pre, ¬ q < x.n) → (o = none → pre = []) → chkQ pre ds = chkR o ds
  | [], pre, o, _, _ => by rw [chkR_nil]; rfl
  | x :: r, pre, o, h, h0 => by
    rw [chkQ, chkR_cons]
    have e1 : (pre.all fun q => decide (q.n < x.n)) = aheadB o x.n := by
      cases o with
      | none => rw [h0 rfl]; rfl
      | some q =>
        obtain ⟨⟨y, hy, hyq⟩, hm⟩ := h q rfl
        show _ = decide (q < x.n)
        by_cases hq : q < x.n
        · rw [decide_eq_true hq, List.all_eq_true]
          intro z hz
          apply decide_eq_true
          rcases bytes_tri z.n q with hl | hl | hl
          · exact bytes_lt_trans hl hq
          · rw [hl]; exact hq
          · exact absurd hl (hm z hz)
        · rw [decide_eq_false hq, List.all_eq_false]
          exact ⟨y, hy, by rw [hyq]; simpa using hq⟩
    rw [e1]
    cases hb : aheadB o x.n with
    | false => simp
    | true =>
      have ih := chkQ_R r (pre ++ [x]) (some x.n) (fun q hq => by
        obtain rfl := Option.some.inj hq
        refine ⟨⟨x, by simp, rfl⟩, fun z hz => ?_⟩
        rcases List.mem_append.1 hz with hz | hz
        · have : (pre.all fun q => decide (q.n < x.n)) = true := by rw [e1, hb]
          have hzx : z.n < x.n := of_decide_eq_true (List.all_eq_true.1 this z hz)
          exact fun hxz => bytes_lt_irrefl _ (bytes_lt_trans hzx hxz)
        · rw [List.mem_singleton.1 hz]; exact bytes_lt_irrefl _) (fun h => by cases h)
      rw [ih]
theorem chk_Q (ds : List Pr) (h1 : 1 ≤ ds.length) (h8 : ds.length ≤ 8) : chk ds = chkQ [] ds := by
  unfold chk
  rw [decide_eq_true h1, decide_eq_true h8, chkQ_R ds [] none (fun q hq => by cases hq) (fun _ => rfl)]
  rfl

set_option maxHeartbeats 20000000 in
set_option maxRecDepth 100000 in
theorem rcheck_any (v : Value) (ds : List Pr) (w : World) (h : Rd w 2 v ds.length (prc ds)) (hm : ds.length ≤ 1000000) :
    Calls Tryd.prog 11 #[v] w fun e w' => e = .returned (.bool (chk ds)) ∧ Below w.heap.size w w' := by
  have hT := bs_toList
  obtain ⟨_, a, cap, g, off, rfl, hg, hc⟩ := h
  obtain ⟨n, hn⟩ : ∃ n, n = ds.length := ⟨_, rfl⟩
  rw [← hn] at hg hc ⊢
  by_cases h1 : n < 1
  · have hc0 : chk ds = false := by unfold chk; rw [decide_eq_false (by omega)]; rfl
    rw [hc0]
    have hn0 : n = 0 := by omega
    subst hn0
    clear hc0 h1 hn hm hg hc
    go_enter Tryd.func11, Tryd.ntmps11
    go_wp2
    go_ret
    exact ⟨rfl, Below.refl _ _⟩
  by_cases h8 : 8 < n
  · have hc0 : chk ds = false := by unfold chk; rw [decide_eq_false (show ¬ ds.length ≤ 8 by omega)]; simp
    rw [hc0]
    have h0' : ((n : Int) == 0) = false := by rw [beq_eq_false_iff_ne]; omega
    have h8' : decide ((8 : Int) < n) = true := by simp; omega
    clear hc0 h1 hn hm hg hc
    go_enter Tryd.func11, Tryd.ntmps11
    go_wp2
    go_ret
    exact ⟨rfl, Below.refl _ _⟩
  have HK := Lib.hid (show chk ds = chkQ [] ds from chk_Q ds (by omega) (by omega))
  rw [HK.out]
  obtain ⟨rfl, hgl⟩ := hg (by omega)
  have HN := Lib.hid hn
  have HC := Lib.hid hc
  have h0' : ((n : Int) == 0) = false := by rw [beq_eq_false_iff_ne]; omega
  have h8' : decide ((8 : Int) < n) = false := by simp; omega
  have h8n : n ≤ 8 := by omega
  clear hn hg hc h1 h8 HK
  go_enter Tryd.func11, Tryd.ntmps11
  go_wp2_with fail
  go_loopw [16] (fun i' wr => ∃ (i : Nat), i' = .int .i64 i ∧ i ≤ n ∧ Hid (chkQ [] ds = chkQ (ds.take i) (ds.drop i)) ∧ Below w.heap.size w wr) (fun i' _ => n - (intOf i').toNat)
  case atStart => exact ⟨0, rfl, by omega, rfl, Below.refl _ _⟩
  case round =>
    obtain ⟨W0, rfl⟩ : ∃ W0, W0 = wr := ⟨_, rfl⟩
    obtain ⟨i, rfl, hi, hk, hb⟩ := hrel
    by_cases hlt : i < n
    · obtain ⟨x, hx⟩ : ∃ x, ds[i]? = some x := ⟨ds[i]'(by have := HN.out; omega), List.getElem?_eq_getElem (by have := HN.out; omega)⟩
      obtain ⟨v0, v1⟩ := prc_at ds i x hx
      have hbz := hb.size
      have q0 := ((hb.cell (p := ⟨g, off + i * 2, none⟩) hgl).trans (HC.out (i * 2) (by omega))).trans v0
      have q1 := ((hb.cell (p := ⟨g, off + (i * 2 + 1), none⟩) hgl).trans (HC.out (i * 2 + 1) (by omega))).trans v1
      rw [← Nat.add_assoc] at q1
      have hd : ds.drop i = x :: ds.drop (i + 1) := by
        rw [List.drop_eq_getElem_cons (by have := HN.out; omega)]
        congr 1
        rw [List.getElem?_eq_getElem (by have := HN.out; omega)] at hx
        exact Option.some.inj hx
      have ht : ds.take (i + 1) = ds.take i ++ [x] := by rw [List.take_add_one, hx]; rfl
      have hkk : chkQ [] ds = (nameB x.n && (valB x.v && (((ds.take i).all fun q => decide (q.n < x.n)) && chkQ (ds.take (i + 1)) (ds.drop (i + 1))))) := by
        rw [hk.out, hd, ht]; rfl
      have hgw : g ≠ W0.heap.size := by omega
      have hil : (i : Int) < n := by omega
      have HNm := Lib.hid (fun W => rname_any x.n W)
      have hz : (bs x.v).size = x.v.length := bs_size _
      generalize nameB x.n = b1 at hkk HNm
      rcases b1 with _ | _
      · have HQ := Lib.hid (show chkQ [] ds = false by rw [hkk]; rfl)
        clear hkk hk hd ht v0 v1 hx
        go_wp2_with fail
        refine (HNm.out _).mono ?_
        rintro e w1 ⟨rfl, rfl⟩
        go_wp2
        go_ret
        exact ⟨by rw [HQ.out]; rfl, hb.alloc hbz _⟩
      · by_cases hv0 : x.v = []
        · have HQ := Lib.hid (show chkQ [] ds = false by rw [hkk, hv0]; rfl)
          have hb1 : x.v.isEmpty = true := by rw [hv0]; rfl
          clear hkk hk hd ht v0 v1 hx
          go_wp2_with fail
          refine (HNm.out _).mono ?_
          rintro e w1 ⟨rfl, rfl⟩
          go_wp2
          go_ret
          exact ⟨by rw [HQ.out]; rfl, hb.alloc hbz _⟩
        · have hb1 : x.v.isEmpty = false := by simpa using hv0
          have hl0 : 1 ≤ x.v.length := List.length_pos_iff.2 hv0
          by_cases hv4 : 40 < x.v.length
          · have HQ := Lib.hid (show chkQ [] ds = false by rw [hkk, valB, decide_eq_false (show ¬ x.v.length ≤ 40 by omega)]; simp)
            have h40 : decide ((40 : Int) < x.v.length) = true := by simp; omega
            clear hkk hk hd ht v0 v1 hx
            go_wp2_with fail
            refine (HNm.out _).mono ?_
            rintro e w1 ⟨rfl, rfl⟩
            go_wp2
            go_ret
            exact ⟨by rw [HQ.out]; rfl, hb.alloc hbz _⟩
          · have hvb : valB x.v = true := by rw [valB, decide_eq_true hl0, decide_eq_true (show x.v.length ≤ 40 by omega)]; rfl
            rw [hvb] at hkk
            have h40 : decide ((40 : Int) < x.v.length) = false := by simp; omega
            have HKK := Lib.hid hkk
            clear hkk hk hd ht v0 v1 hx hv0 hv4 hvb
            go_wp2_with fail
            refine (HNm.out _).mono ?_
            rintro e w1 ⟨rfl, rfl⟩
            go_wp2_with fail
            obtain ⟨W, hW⟩ : ∃ W, W = W0.alloc (.cells #[.string (bs x.n), .string (bs x.v)] 54) := ⟨_, rfl⟩
            have g0 : W.cell? ⟨W0.heap.size, 0, none⟩ = some (.string (bs x.n)) := by rw [hW]; simp
            have gz : W0.heap.size < W.heap.size := by rw [hW]; simp
            have BX := Lib.hid (show Below w.heap.size w W by rw [hW]; exact hb.alloc hbz _)
            have gwz : w.heap.size ≤ W.heap.size := BX.out.size
            simp only [← hW]
            clear hW q0 q1 hz hb1 hl0 h40 hb
            go_loopw [5] (fun k' wr => ∃ (k : Nat), k' = .int .i64 k ∧ k ≤ i ∧ Hid (∀ q ∈ ds.take k, q.n < x.n) ∧ Below W.heap.size W wr) (fun k' _ => i - (intOf k').toNat)
            case atStart => exact ⟨0, rfl, by omega, Lib.hid (fun q h => by simp at h), Below.refl _ _⟩
            case round =>
              obtain ⟨k, rfl, hk, hal, hbw⟩ := hrel
              have HBW2 := Lib.hid (BX.out.trans (hbw.mono gwz))
              have HBW := Lib.hid hbw
              by_cases hlk : k < i
              · obtain ⟨y, hy⟩ : ∃ y, ds[k]? = some y := ⟨ds[k]'(by have := HN.out; omega), List.getElem?_eq_getElem (by have := HN.out; omega)⟩
                obtain ⟨u0, -⟩ := prc_at ds k y hy
                have p0 := ((HBW2.out.cell (p := ⟨g, off + k * 2, none⟩) hgl).trans (HC.out (k * 2) (by omega))).trans u0
                have p1 := (hbw.cell (p := ⟨W0.heap.size, 0, none⟩) gz).trans g0
                have hcp : Op.bytesLess y.n x.n = decide (y.n < x.n) := less_dec _ _
                have hkl : (k : Int) < i := by omega
                have hkn : (k : Int) < n := by omega
                have htk : ds.take (k + 1) = ds.take k ++ [y] := by rw [List.take_add_one, hy]; rfl
                by_cases hyx : y.n < x.n
                · rw [decide_eq_true hyx] at hcp
                  have HAL := Lib.hid (show ∀ q ∈ ds.take (k + 1), q.n < x.n from fun q hq => by
                    rw [htk] at hq
                    rcases List.mem_append.1 hq with hq | hq
                    · exact hal.out q hq
                    · rw [List.mem_singleton.1 hq]; exact hyx)
                  clear hal hy u0 htk hyx hbw g0
                  go_wp2_with fail
                  go_quiet (fail)
                  go_wp2
                  exact ⟨⟨k + 1, by simp, by omega, HAL, below_draw HBW.out _⟩, by simp [intOf]; omega⟩
                · rw [decide_eq_false hyx] at hcp
                  have HQ := Lib.hid (show chkQ [] ds = false by
                    rw [HKK.out]
                    have : ((ds.take i).all fun q => decide (q.n < x.n)) = false := by
                      rw [List.all_eq_false]
                      exact ⟨y, List.mem_of_getElem? (i := k) (by rw [List.getElem?_take, if_pos hlk]; exact hy), by simpa using hyx⟩
                    rw [this]; rfl)
                  clear hal hy u0 htk hyx HKK hbw g0
                  go_wp2_with fail
                  go_quiet (fail)
                  go_wp2
                  go_ret
                  exact ⟨by rw [HQ.out]; rfl, below_draw HBW2.out _⟩
              · have hki : k = i := by omega
                have HQ := Lib.hid (show chkQ [] ds = chkQ (ds.take (i + 1)) (ds.drop (i + 1)) by
                  rw [HKK.out]
                  have : ((ds.take i).all fun q => decide (q.n < x.n)) = true := by
                    rw [List.all_eq_true]
                    intro q hq
                    exact decide_eq_true (hal.out q (by rw [hki]; exact hq))
                  rw [this]; rfl)
                have hkl : ¬ (k : Int) < i := by omega
                clear hal HKK hki hbw g0
                go_wp2
                exact ⟨⟨i + 1, by simp, by omega, HQ, HBW2.out⟩, by simp [intOf]; omega⟩
    · have hil : ¬ (i : Int) < n := by omega
      have hd : ds.drop i = [] := List.drop_eq_nil_of_le (by have := HN.out; omega)
      have HQ := Lib.hid (show chkQ [] ds = true by rw [hk.out, hd]; cases ds.take i <;> rfl)
      clear hk hd
      go_wp2
      go_ret
      exact ⟨by rw [HQ.out]; rfl, hb⟩
end Go.Proofs.YtmgnmppdeiflbaaDoor

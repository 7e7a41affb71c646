/- Layer 9: Check, whole. -/
import Derived.Test.YtoihkeilofpcjaaDoorMM8
import Derived.Test.YtoihkeilofpcjaaDoorMCmp
namespace Go.Proofs.YtoihkeilofpcjaaDoor
open Go.RowKit Go.Lib

theorem mless_lt : ∀ (a b : List UInt8), Op.bytesLess a b = true ↔ a < b
  | [], [] => by simp [Op.bytesLess]
  | [], _ :: _ => by simp [Op.bytesLess]
  | _ :: _, [] => by simp [Op.bytesLess]
  | x :: a, y :: b => by
    rw [Op.bytesLess, List.cons_lt_cons_iff]
    simp [mless_lt a b]
theorem mless_dec (a b : List UInt8) : Op.bytesLess a b = decide (a < b) := by
  rw [Bool.eq_iff_iff, mless_lt, decide_eq_true_iff]
/-- The text ahead of place i. -/
def prevS (l : List (List UInt8)) (i : Nat) : Option (List UInt8) := match i with
  | 0 => none
  | i + 1 => l[i]?
theorem okSs_none (id x : List UInt8) (l : List (List UInt8)) : Mt.okSs id none (x :: l) = (Mt.isN x && !decide (x = id) && Mt.okSs id (some x) l) := by
  conv => lhs; unfold Mt.okSs
  simp
theorem okSs_some (id q x : List UInt8) (l : List (List UInt8)) : Mt.okSs id (some q) (x :: l) = (Mt.isN x && !decide (x = id) && decide (q < x) && Mt.okSs id (some x) l) := by
  conv => lhs; unfold Mt.okSs
theorem okSs_nil (id : List UInt8) (p : Option (List UInt8)) : Mt.okSs id p [] = true := by cases p <;> rfl
theorem sc_at (l : List (List UInt8)) (i : Nat) (x : List UInt8) (h : l[i]? = some x) : (sc l)[i]? = some (.string (bs x)) := by simp [sc, h]

set_option maxHeartbeats 2000000 in
set_option maxRecDepth 100000 in
theorem sources_any (m : Mt.Me) (vf vs : Value) (w : World) (h : MeR w m vf vs) :
    Calls Tryd.prog 25 #[meV m vf vs] w fun e w' => e = .returned (.bool (Mt.okS m)) ∧ Below w.heap.size w w' := by
  have hT := bs_toList
  obtain ⟨id, mn, mx, lv, se, sa, files, src⟩ := m
  obtain ⟨_, ⟨_, a, cap, g, off, rfl, hg, hc⟩, _, hms⟩ := h
  simp only [Nat.mul_one] at hg hc hms
  unfold meV
  obtain ⟨R, hR⟩ : ∃ R, R = Mt.okS ⟨id, mn, mx, lv, se, sa, files, src⟩ := ⟨_, rfl⟩
  rw [← hR]
  replace hR : R = (decide (src.length ≤ 50) && Mt.okSs id none src) := hR
  obtain ⟨n, hn⟩ : ∃ n, n = src.length := ⟨_, rfl⟩
  show Calls _ _ #[.agg #[_, _, _, _, _, _, _, .slice a src.length cap]] _ _
  rw [← hn] at hg hc hms hR ⊢
  by_cases h50 : 50 < n
  · have HK := Lib.hid (show R = false by rw [hR, decide_eq_false (by omega)]; rfl)
    have h50' : decide ((50 : Int) < n) = true := by simp; omega
    clear hn hg hc h50 hms hR
    go_enter Tryd.func25, Tryd.ntmps25
    go_wp2
    go_ret
    exact ⟨by rw [HK.out]; rfl, (Below.refl _ _).alloc (Nat.le_refl _) _⟩
  · have HK := Lib.hid (show R = Mt.okSs id none src by rw [hR, decide_eq_true (by omega)]; rfl)
    have h50' : decide ((50 : Int) < n) = false := by simp; omega
    have HC := Lib.hid hc
    have HG := Lib.hid hg
    have HN := Lib.hid hn
    have h50n : n ≤ 50 := by omega
    clear hn hg hc h50 hms hR
    go_enter Tryd.func25, Tryd.ntmps25
    go_wp2_with fail
    have B0 : Below (w.heap.size + 1) (w.alloc (.cells #[.string (bs id), .int .i64 mn, .int .i64 mx, .int .i64 lv, .int .i64 se, .int .i64 sa, vf, .slice a n cap] 25)) (w.alloc (.cells #[.string (bs id), .int .i64 mn, .int .i64 mx, .int .i64 lv, .int .i64 se, .int .i64 sa, vf, .slice a n cap] 25)) := Below.refl _ _
    go_loopw [12] (fun i' wr => ∃ (i : Nat), i' = .int .i64 i ∧ i ≤ n ∧ Hid (R = Mt.okSs id (prevS src i) (src.drop i)) ∧ Below (w.heap.size + 1) (w.alloc (.cells #[.string (bs id), .int .i64 mn, .int .i64 mx, .int .i64 lv, .int .i64 se, .int .i64 sa, vf, .slice a n cap] 25)) wr) (fun i' _ => n - (intOf i').toNat)
    case atStart => exact ⟨0, rfl, by omega, by rw [List.drop_zero]; exact HK, B0⟩
    case round =>
      clear B0
      obtain ⟨i, rfl, hi, hk, hb0⟩ := hrel
      have hb : Below w.heap.size w wr := ((Below.refl _ _).alloc (Nat.le_refl _) _).trans (hb0.mono (by omega))
      have hbz := hb0.size
      simp at hbz
      by_cases hlt : i < n
      · obtain ⟨ha, hgl⟩ := HG.out (by omega)
        subst ha
        obtain ⟨x, hx⟩ : ∃ x, src[i]? = some x := ⟨src[i]'(by have := HN.out; omega), List.getElem?_eq_getElem (by have := HN.out; omega)⟩
        have q0 := ((hb.cell (p := ⟨g, off + i, none⟩) hgl).trans (HC.out i (by omega))).trans (sc_at src i x hx)
        have hm0 := heap_alloc_new w (.cells #[.string (bs id), .int .i64 mn, .int .i64 mx, .int .i64 lv, .int .i64 se, .int .i64 sa, vf, .slice (some ⟨g, off, none⟩) n cap] 25)
        have hm1 := (hb0.block w.heap.size (by omega)).trans hm0
        have p0 : wr.cell? ⟨w.heap.size, 0, none⟩ = some (.string (bs id)) := Lib.cell_of_heap hm1 0
        have p7 : wr.cell? ⟨w.heap.size, 7, none⟩ = some (.slice (some ⟨g, off, none⟩) n cap) := Lib.cell_of_heap hm1 7
        clear hm0 hm1
        have hd : src.drop i = x :: src.drop (i + 1) := by
          rw [List.drop_eq_getElem_cons (by have := HN.out; omega)]
          congr 1
          rw [List.getElem?_eq_getElem (by have := HN.out; omega)] at hx
          exact Option.some.inj hx
        have hil : (i : Int) < n := by omega
        have HNm := Lib.hid (fun W => isName_any x W)
        have hw : wrap64 ((i : Int) + 1) = i + 1 := IntWalk.wrap64_in _ ⟨by omega, by omega⟩
        have hkk := hk.out
        rw [hd] at hkk
        obtain ⟨b1, hb1⟩ : ∃ b1, b1 = Mt.isN x := ⟨_, rfl⟩
        rw [← hb1] at HNm
        rcases b1 with _ | _
        · have HQ := Lib.hid (show R = false by
            rw [hkk]
            cases prevS src i with
            | none => rw [okSs_none, ← hb1]; rfl
            | some q => rw [okSs_some, ← hb1]; rfl)
          clear hkk hk hd hx hb1 HK
          go_wp2_with fail
          refine (HNm.out _).mono ?_
          rintro e w1 ⟨rfl, rfl⟩
          go_wp2
          go_ret
          exact ⟨by rw [HQ.out]; rfl, hb⟩
        · by_cases t1 : x = id
          · have HQ := Lib.hid (show R = false by
              rw [hkk]
              cases prevS src i with
              | none => rw [okSs_none, ← hb1, decide_eq_true t1]; rfl
              | some q => rw [okSs_some, ← hb1, decide_eq_true t1]; rfl)
            have hq : (x == id) = true := beq_iff_eq.2 t1
            clear hkk hk hd hx hb1 HK t1
            go_wp2_with fail
            refine (HNm.out _).mono ?_
            rintro e w1 ⟨rfl, rfl⟩
            go_wp2
            go_ret
            exact ⟨by rw [HQ.out]; rfl, hb⟩
          · have hq : (x == id) = false := beq_eq_false_iff_ne.2 t1
            by_cases hi0 : i = 0
            · subst hi0
              have HQ := Lib.hid (show R = Mt.okSs id (prevS src 1) (src.drop 1) by
                have e : prevS src 1 = some x := hx
                rw [hkk, e]
                show Mt.okSs id none _ = _
                rw [okSs_none, ← hb1, decide_eq_false t1]; rfl)
              rw [Nat.add_zero] at q0
              clear hkk hk hd hx hb1 HK t1
              go_wp2_with fail
              refine (HNm.out _).mono ?_
              rintro e w1 ⟨rfl, rfl⟩
              go_wp2
              exact ⟨⟨1, by simp, by omega, HQ, hb0⟩, by simp [intOf]; omega⟩
            · obtain ⟨j, rfl⟩ : ∃ j, i = j + 1 := ⟨i - 1, by omega⟩
              obtain ⟨y, hy⟩ : ∃ y, src[j]? = some y := ⟨src[j]'(by have := HN.out; omega), List.getElem?_eq_getElem (by have := HN.out; omega)⟩
              have r0 := ((hb.cell (p := ⟨g, off + j, none⟩) hgl).trans (HC.out j (by omega))).trans (sc_at src j y hy)
              have hpy : prevS src (j + 1) = some y := hy
              have hpx : prevS src (j + 1 + 1) = some x := hx
              rw [hpy, okSs_some, ← hb1, decide_eq_false t1] at hkk
              have hcp : Op.bytesLess y x = decide (y < x) := mless_dec _ _
              have e3 : IntKind.i64.wrap (j : Int) = (j : Int) := IntWalk.i64_in _ (by omega)
              have e1 : ((j + 1 : Nat) : Int) - 1 = (j : Int) := by omega
              have e2 : ((j + 1 : Nat) : Int) > 0 := by omega
              have e4 : (j : Int) < n := by omega
              by_cases hlt2 : y < x
              · rw [decide_eq_true hlt2] at hcp hkk
                have HQ := Lib.hid (show R = Mt.okSs id (prevS src (j + 1 + 1)) (src.drop (j + 1 + 1)) by rw [hkk, hpx]; rfl)
                clear hkk hk hd hx hb1 HK t1 hlt2 hy hpy hpx
                go_wp2_with fail
                refine (HNm.out _).mono ?_
                rintro e w1 ⟨rfl, rfl⟩
                go_wp2
                exact ⟨⟨j + 1 + 1, by simp <;> omega, by omega, HQ, hb0⟩, by simp [intOf]; omega⟩
              · rw [decide_eq_false hlt2] at hcp hkk
                have HQ := Lib.hid (show R = false by rw [hkk]; rfl)
                clear hkk hk hd hx hb1 HK t1 hlt2 hy hpy hpx
                go_wp2_with fail
                refine (HNm.out _).mono ?_
                rintro e w1 ⟨rfl, rfl⟩
                go_wp2
                go_ret
                exact ⟨by rw [HQ.out]; rfl, hb⟩
      · have hil : ¬ (i : Int) < n := by omega
        have HQ := Lib.hid (show R = true by rw [hk.out, List.drop_eq_nil_of_le (by have := HN.out; omega), okSs_nil])
        clear hk HK
        go_wp2
        go_ret
        exact ⟨by rw [HQ.out]; rfl, hb⟩

theorem cells8 {w : World} {b : Nat} {v0 v1 v2 v3 v4 v5 v6 v7 : Value} {T : TypeId} (h : w.heap[b]? = some (.cells #[v0, v1, v2, v3, v4, v5, v6, v7] T)) :
    w.cell? ⟨b, 0, none⟩ = some v0 ∧ w.cell? ⟨b, 1, none⟩ = some v1 ∧ w.cell? ⟨b, 2, none⟩ = some v2 ∧ w.cell? ⟨b, 3, none⟩ = some v3 ∧ w.cell? ⟨b, 4, none⟩ = some v4 ∧ w.cell? ⟨b, 5, none⟩ = some v5 ∧ w.cell? ⟨b, 6, none⟩ = some v6 ∧ w.cell? ⟨b, 7, none⟩ = some v7 :=
  ⟨Lib.cell_of_heap h 0, Lib.cell_of_heap h 1, Lib.cell_of_heap h 2, Lib.cell_of_heap h 3, Lib.cell_of_heap h 4, Lib.cell_of_heap h 5, Lib.cell_of_heap h 6, Lib.cell_of_heap h 7⟩

/-- Check's answer. -/
def ckE (b : Bool) : Int := if b = true then 0 else 3

set_option maxHeartbeats 4000000 in
set_option maxRecDepth 100000 in
theorem check_any (m : Mt.Me) (vf vs : Value) (w : World) (h : MeR w m vf vs) (hP : PartsAt w) :
    Calls Tryd.prog 8 #[meV m vf vs] w fun e w' => e = .returned (.int .i64 (ckE (Mt.chk m))) ∧ Below w.heap.size w w' := by
  have H := Lib.hid h
  have HP := Lib.hid hP
  have C1 := Lib.hid (fun W => isName_any m.id W)
  have C2 := Lib.hid (fun W => times_any m vf vs W)
  have C3 := Lib.hid (fun W => numbers_any m vf vs W)
  have C4 := Lib.hid (fun W h hP => files_any m vf vs W h hP)
  have C5 := Lib.hid (fun W h => sources_any m vf vs W h)
  obtain ⟨a1, h1⟩ : ∃ a, a = Mt.isN m.id := ⟨_, rfl⟩
  obtain ⟨a2, h2⟩ : ∃ a, a = Mt.okT m := ⟨_, rfl⟩
  obtain ⟨a3, h3⟩ : ∃ a, a = Mt.okN m := ⟨_, rfl⟩
  obtain ⟨a4, h4⟩ : ∃ a, a = Mt.okFs m.files := ⟨_, rfl⟩
  obtain ⟨a5, h5⟩ : ∃ a, a = Mt.okS m := ⟨_, rfl⟩
  have HK := Lib.hid (show Mt.chk m = (a1 && a2 && a3 && a4 && a5) by rw [h1, h2, h3, h4, h5]; rfl)
  rw [← h1] at C1
  rw [← h2] at C2
  rw [← h3] at C3
  rw [← h4] at C4
  rw [← h5] at C5
  rw [HK.out]
  obtain ⟨_, a5f, capf, gf, o5f, rfl, _⟩ := h.1
  obtain ⟨_, a5s, caps, gs, o5s, rfl, _⟩ := h.2.1
  clear h1 h2 h3 h4 h5 h hP HK
  unfold meV at C2 C3 C4 C5 ⊢
  rcases a1 with _ | _
  · go_enter Tryd.func8, Tryd.ntmps8
    go_wp2_with fail
    refine (C1.out _).mono ?_
    rintro e w1 ⟨rfl, rfl⟩
    go_wp2
    go_ret
    exact ⟨rfl, (Below.refl _ _).alloc (Nat.le_refl _) _⟩
  · have B0 : ∀ X : Obj, Below w.heap.size w (w.alloc X) := fun X => (Below.refl _ _).alloc (Nat.le_refl _) X
    rcases a2 with _ | _
    · go_enter Tryd.func8, Tryd.ntmps8
      go_wp2_with fail
      refine (C1.out _).mono ?_
      rintro e w1 ⟨rfl, rfl⟩
      go_wp2_with fail
      refine (C2.out _).mono ?_
      rintro e w2 ⟨rfl, b2⟩
      go_wp2
      go_ret
      exact ⟨rfl, below_step (B0 _) b2⟩
    · rcases a3 with _ | _
      · skip
        go_enter Tryd.func8, Tryd.ntmps8
        go_wp2_with fail
        refine (C1.out _).mono ?_
        rintro e w1 ⟨rfl, rfl⟩
        go_wp2_with fail
        refine (C2.out _).mono ?_
        rintro e w2 ⟨rfl, b2⟩
        have hb2 := (b2.block w.heap.size (by simp)).trans (heap_alloc_new w _)
        obtain ⟨p0, p1, p2, p3, p4, p5, p6, p7⟩ := cells8 hb2
        have B2 := below_step (B0 _) b2
        have z2 := b2.size
        simp at z2
        go_wp2_with fail
        refine (C3.out _).mono ?_
        rintro e w3 ⟨rfl, b3⟩
        go_wp2
        go_ret
        exact ⟨rfl, below_step B2 b3⟩
      · rcases a4 with _ | _
        · skip
          go_enter Tryd.func8, Tryd.ntmps8
          go_wp2_with fail
          refine (C1.out _).mono ?_
          rintro e w1 ⟨rfl, rfl⟩
          go_wp2_with fail
          refine (C2.out _).mono ?_
          rintro e w2 ⟨rfl, b2⟩
          have hb2 := (b2.block w.heap.size (by simp)).trans (heap_alloc_new w _)
          obtain ⟨p0, p1, p2, p3, p4, p5, p6, p7⟩ := cells8 hb2
          have B2 := below_step (B0 _) b2
          have z2 := b2.size
          simp at z2
          go_wp2_with fail
          refine (C3.out _).mono ?_
          rintro e w3 ⟨rfl, b3⟩
          have hb3 := (b3.block w.heap.size (by omega)).trans hb2
          clear p0 p1 p2 p3 p4 p5 p6 p7
          obtain ⟨p0, p1, p2, p3, p4, p5, p6, p7⟩ := cells8 hb3
          have B3 := below_step B2 b3
          have z3 := b3.size
          go_wp2_with fail
          refine (C4.out _ (H.out.on B3) (HP.out.below B3)).mono ?_
          rintro e w4 ⟨rfl, b4⟩
          go_wp2
          go_ret
          exact ⟨rfl, below_step B3 b4⟩
        · rcases a5 with _ | _
          · skip
            go_enter Tryd.func8, Tryd.ntmps8
            go_wp2_with fail
            refine (C1.out _).mono ?_
            rintro e w1 ⟨rfl, rfl⟩
            go_wp2_with fail
            refine (C2.out _).mono ?_
            rintro e w2 ⟨rfl, b2⟩
            have hb2 := (b2.block w.heap.size (by simp)).trans (heap_alloc_new w _)
            obtain ⟨p0, p1, p2, p3, p4, p5, p6, p7⟩ := cells8 hb2
            have B2 := below_step (B0 _) b2
            have z2 := b2.size
            simp at z2
            go_wp2_with fail
            refine (C3.out _).mono ?_
            rintro e w3 ⟨rfl, b3⟩
            have hb3 := (b3.block w.heap.size (by omega)).trans hb2
            clear p0 p1 p2 p3 p4 p5 p6 p7
            obtain ⟨p0, p1, p2, p3, p4, p5, p6, p7⟩ := cells8 hb3
            have B3 := below_step B2 b3
            have z3 := b3.size
            go_wp2_with fail
            refine (C4.out _ (H.out.on B3) (HP.out.below B3)).mono ?_
            rintro e w4 ⟨rfl, b4⟩
            have hb4 := (b4.block w.heap.size (by omega)).trans hb3
            clear p0 p1 p2 p3 p4 p5 p6 p7
            obtain ⟨p0, p1, p2, p3, p4, p5, p6, p7⟩ := cells8 hb4
            have B4 := below_step B3 b4
            go_wp2_with fail
            refine (C5.out _ (H.out.on B4)).mono ?_
            rintro e w5 ⟨rfl, b5⟩
            go_wp2
            go_ret
            exact ⟨rfl, below_step B4 b5⟩
          · skip
            go_enter Tryd.func8, Tryd.ntmps8
            go_wp2_with fail
            refine (C1.out _).mono ?_
            rintro e w1 ⟨rfl, rfl⟩
            go_wp2_with fail
            refine (C2.out _).mono ?_
            rintro e w2 ⟨rfl, b2⟩
            have hb2 := (b2.block w.heap.size (by simp)).trans (heap_alloc_new w _)
            obtain ⟨p0, p1, p2, p3, p4, p5, p6, p7⟩ := cells8 hb2
            have B2 := below_step (B0 _) b2
            have z2 := b2.size
            simp at z2
            go_wp2_with fail
            refine (C3.out _).mono ?_
            rintro e w3 ⟨rfl, b3⟩
            have hb3 := (b3.block w.heap.size (by omega)).trans hb2
            clear p0 p1 p2 p3 p4 p5 p6 p7
            obtain ⟨p0, p1, p2, p3, p4, p5, p6, p7⟩ := cells8 hb3
            have B3 := below_step B2 b3
            have z3 := b3.size
            go_wp2_with fail
            refine (C4.out _ (H.out.on B3) (HP.out.below B3)).mono ?_
            rintro e w4 ⟨rfl, b4⟩
            have hb4 := (b4.block w.heap.size (by omega)).trans hb3
            clear p0 p1 p2 p3 p4 p5 p6 p7
            obtain ⟨p0, p1, p2, p3, p4, p5, p6, p7⟩ := cells8 hb4
            have B4 := below_step B3 b4
            go_wp2_with fail
            refine (C5.out _ (H.out.on B4)).mono ?_
            rintro e w5 ⟨rfl, b5⟩
            go_wp2
            go_ret
            exact ⟨rfl, below_step B4 b5⟩
end Go.Proofs.YtoihkeilofpcjaaDoor

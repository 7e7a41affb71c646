/- Layer 13: the series that one matcher fits. Layer 13: Select, walked. -/
import Derived.Test.YtefhnjepocbodaaGreatDoorMTS2
namespace Go.Proofs.YtefhnjepocbodaaGreatDoor
open Go.RowKit Go.Lib
set_option linter.unusedVariables false

/-- A matcher that lies in a block of its own. -/
def MAt (B : Nat) (m : Mr) (v : Value) (W : World) : Prop := W.cell? ⟨B, 0, none⟩ = some (.int .i64 m.k) ∧ W.cell? ⟨B, 1, none⟩ = some (.string (bs m.n)) ∧ W.cell? ⟨B, 2, none⟩ = some v
theorem MAt.on {B : Nat} {m : Mr} {v : Value} {W W' : World} (h : MAt B m v W) (hB : B < W.heap.size) (b : Below W.heap.size W W') : MAt B m v W' :=
  ⟨(b.cell (p := ⟨B, 0, none⟩) hB).trans h.1, (b.cell (p := ⟨B, 1, none⟩) hB).trans h.2.1, (b.cell (p := ⟨B, 2, none⟩) hB).trans h.2.2⟩

set_option maxHeartbeats 1000000 in
set_option maxRecDepth 100000 in
theorem fitnot_any (B : Nat) (m : Mr) (v : Value) (y : List UInt8) (w : World) (h : MAt B m v w) (hr : Rd w 1 v m.vs.length (txs m.vs)) (hl : m.vs.length ≤ 1000000) (hk : m.k ≤ 4) :
    Calls Tryz.prog 47 #[.string (bs y), .pointer (some ⟨B, 0, none⟩)] w fun e w' => e = .returned (.bool (!fitB m y)) ∧ Below w.heap.size w w' := by
  have F := Lib.hid (fits13_any m v y w hr hl hk)
  obtain ⟨_, a, cap, g, off, rfl, -, -⟩ := hr
  obtain ⟨c0, c1, c2⟩ := h
  obtain ⟨r, hR⟩ : ∃ r, fitB m y = r := ⟨_, rfl⟩
  unfold mrV at F
  rw [hR] at F ⊢
  obtain ⟨k, n, vs⟩ := m
  simp only at F c0 c1 c2
  clear hR
  go_enter Tryz.func47, Tryz.ntmps47
  go_wp2_with fail
  refine F.out.mono ?_
  rintro e w1 ⟨rfl, b1⟩
  go_wp2
  go_ret
  exact ⟨rfl, b1⟩

set_option maxHeartbeats 4000000 in
set_option maxRecDepth 100000 in
theorem fitting_any {base b mh ml : Nat} {T : List Sr} (m : Mr) (v : Value) (w : World) (h : Told base b mh ml T w) (hr : Rd w 1 v m.vs.length (txs m.vs)) (hl : m.vs.length ≤ 1000000) (hk : m.k ≤ 4) :
    Calls Tryz.prog 24 #[.pointer (some ⟨b, 0, none⟩), mrV m v] w (NewN w (fitN T m)) := by
  obtain ⟨-, a, cap, g, off, hv, -, -⟩ := id hr
  obtain ⟨w1, hw1⟩ : ∃ w1, w1 = w.alloc (.cells #[.int .i64 m.k, .string (bs m.n), v] 59) := ⟨_, rfl⟩
  have hx := heap_alloc_new w (.cells #[.int .i64 m.k, .string (bs m.n), v] 59)
  rw [← hw1] at hx
  have b1 : Below w.heap.size w w1 := by rw [hw1]; exact (Below.refl _ _).alloc (Nat.le_refl _) _
  have z1 : w1.heap.size = w.heap.size + 1 := by rw [hw1]; simp
  have hm1 : MAt w.heap.size m v w1 := ⟨Lib.cell_of_heap hx 0, Lib.cell_of_heap hx 1, Lib.cell_of_heap hx 2⟩
  have H1 := Lib.hid (h.on b1)
  have R1 := Lib.hid (hr.on b1)
  have M1 := Lib.hid hm1
  have B1 := Lib.hid b1
  have F1 := Lib.hid (fits13_any m v [] w1 (hr.on b1) hl hk)
  have HN := Lib.hid (fun y W (bb : Below w1.heap.size w1 W) => fitnot_any w.heap.size m v y W (M1.out.on (by omega) bb) (R1.out.on bb) hl hk)
  have HF := Lib.hid (fun y W (bb : Below w1.heap.size w1 W) => fits13_any m v y W (R1.out.on bb) hl hk)
  obtain ⟨r, hR⟩ : ∃ r, fitB m [] = r := ⟨_, rfl⟩
  have HFN := Lib.hid (show fitN T m = if r = true then pickZ (numsT T) (havN T m.n fun y => !fitB m y) false else havN T m.n (fitB m) by rw [← hR]; rfl)
  rw [hR] at F1
  have e0 : bs [] = (⟨#[]⟩ : ByteArray) := rfl
  rw [e0] at F1
  have HV1 := Lib.hid (fun W (bb : Below w1.heap.size w1 W) => havingF_any m.n (mrV m v) (fitB m) W (H1.out.on bb) (fun y W2 b2 => HF.out y W2 (bb.trans (b2.mono bb.size))))
  have HV2 := Lib.hid (fun W (bb : Below w1.heap.size w1 W) => havingL_any m.n (.pointer (some ⟨w.heap.size, 0, none⟩)) (fun y => !fitB m y) W (H1.out.on bb) (fun y W2 b2 => HN.out y W2 (bb.trans (b2.mono bb.size))))
  have HA := Lib.hid (fun W (bb : Below w1.heap.size w1 W) => told_all (H1.out.on bb))
  have hTf := Lib.hid h.few
  obtain ⟨NT, hNT⟩ : ∃ NT, NT = numsT T := ⟨_, rfl⟩
  obtain ⟨HL, hHL⟩ : ∃ HL, HL = havN T m.n (fun y => !fitB m y) := ⟨_, rfl⟩
  obtain ⟨HP, hHP⟩ : ∃ HP, HP = havN T m.n (fitB m) := ⟨_, rfl⟩
  have UP := Lib.hid (show Up NT ∧ Up HL by rw [hNT, hHL]; exact ⟨(numsT_spec T).1, havN_up _ _ _⟩)
  have hN1 : NT.length ≤ 12 := by rw [hNT]; have := numsT_len T; have := h.few; omega
  have hN2 : HL.length ≤ 12 := by rw [hHL]; have := hav_len T m.n (fun y => !fitB m y); have := h.few; omega
  have LS := Lib.hid (fun v1 v2 W (k1 : Nc W v1 NT) (k2 : Nc W v2 HL) => less_any v1 v2 NT HL W k1 k2 UP.out.1 UP.out.2)
  rw [← hNT, ← hHL, ← hHP] at HFN
  rw [← hNT] at HA
  rw [← hHL] at HV2
  rw [← hHP] at HV1
  unfold mrV at HV1 F1 ⊢
  obtain ⟨k, n, vs⟩ := m
  simp only at hm1 HV1 HV2 HFN F1 hw1 ⊢
  subst hv
  have HM := Lib.hid (fun W (bb : Below w1.heap.size w1 W) => M1.out.on (by omega) bb)
  have HW1 := Lib.hid hw1
  have HR1 := Lib.hid (Below.refl w1.heap.size w1)
  clear hx b1 z1 M1 H1 R1 HN HF hR hNT hHL hHP h hr hl hk hTf UP hw1 hm1
  rw [HFN.out]
  cases r with
  | false =>
    rw [if_neg (by decide)]
    obtain ⟨c0, c1, c2⟩ := HM.out w1 HR1.out
    simp only at c0 c1 c2
    go_enter Tryz.func24, Tryz.ntmps24
    go_wp2_with fail
    rw [← HW1.out]
    refine F1.out.mono ?_
    rintro e w2 ⟨rfl, b2⟩
    have CV := Lib.hid (HV1.out w2 b2)
    obtain ⟨d0, d1, d2⟩ := HM.out w2 b2
    simp only at d0 d1 d2
    have B2 := Lib.hid (B1.out.trans (b2.mono B1.out.size))
    clear c0 c1 c2 b2
    go_wp2_with fail
    refine CV.out.mono ?_
    rintro e w3 ⟨v3, rfl, s3, b3⟩
    obtain ⟨a3, c3, rfl⟩ := s3.slice
    have S3 := Lib.hid (s3.mono B2.out.size); have B3 := Lib.hid (B2.out.trans (b3.mono B2.out.size))
    clear s3 b3
    go_wp2
    go_ret
    exact ⟨_, rfl, S3.out, B3.out⟩
  | true =>
    rw [if_pos rfl]
    obtain ⟨c0, c1, c2⟩ := HM.out w1 HR1.out
    simp only at c0 c1 c2
    go_enter Tryz.func24, Tryz.ntmps24
    go_wp2_with fail
    rw [← HW1.out]
    refine F1.out.mono ?_
    rintro e w2 ⟨rfl, b2⟩
    have B0 := b2.drew
    have FX := Lib.hid (fun W (bb : Below w1.heap.size w1 W) => show W.cell? ⟨w.heap.size, 1, none⟩ = some (.string (bs n)) from (HM.out W bb).2.1)
    have d1 := FX.out w2 b2
    have B2 := Lib.hid (B1.out.trans (b2.mono B1.out.size))
    clear c0 c1 c2
    go_upto_region 3 with fail
    go_region_held3 (fun W => W.cell? ⟨w.heap.size, 1, none⟩ = some (.string (bs n)))
      (first | (refine FX.out _ ?_; assumption) | assumption | fail)
      (first
        | (go_at_call 23; (with_reducible refine (HA.out _ B0).mono ?_); rintro e w5 ⟨v5, rfl, s5, b5⟩; obtain ⟨a5, c5, e5⟩ := s5.slice; subst e5; have B5 : Below w1.heap.size w1 w5 := B0.trans (b5.mono B0.size))
        | (go_at_call 45; (with_reducible refine (HV2.out _ B5).mono ?_); rintro e w6 ⟨v6, rfl, s6, b6⟩; obtain ⟨a6, c6, e6⟩ := s6.slice; subst e6; have B6 : Below w1.heap.size w1 w6 := B5.trans (b6.mono B5.size))
        | (go_at_call 46; (with_reducible refine (LS.out _ _ _ (Nc.of_sl (s5.on b6) (by omega)) (Nc.of_sl s6 (by omega))).mono ?_); rintro e w7 ⟨v7, rfl, s7, b7⟩; obtain ⟨a7, c7, e7⟩ := s7.slice; subst e7; have B7 : Below w1.heap.size w1 w7 := B6.trans (b7.mono B6.size))
        | fail)
    all_goals
      have S7 := Lib.hid (s7.mono (base' := w.heap.size) (by have := B1.out.size; have := B6.size; omega)); have BB := Lib.hid (B1.out.trans (B7.mono B1.out.size))
      clear s5 s6 s7 b5 b6 b7 B5 B6 B7 B0 FX d1
      go_wp2
      go_ret
      exact ⟨_, rfl, S7.out, BB.out⟩
end Go.Proofs.YtefhnjepocbodaaGreatDoor

namespace Go.Proofs.YtefhnjepocbodaaGreatDoor
open Go.RowKit Go.Lib
set_option linter.unusedVariables false

/-- All series, and those that the first matchers fit. -/
def lsN (T : List Sr) (ms : List Mr) : List (List Int) := numsT T :: ms.map (fitN T)
theorem lsN_take {T : List Sr} {ms : List Mr} {i : Nat} {m : Mr} (h : ms[i]? = some m) : lsN T (ms.take (i + 1)) = lsN T (ms.take i) ++ [fitN T m] := by
  unfold lsN
  rw [List.take_add_one, h]
  simp
theorem lsN_len (T : List Sr) (ms : List Mr) : (lsN T ms).length = ms.length + 1 := by simp [lsN]
theorem lsN_each (T : List Sr) (ms : List Mr) : ∀ l ∈ lsN T ms, Up l ∧ l.length ≤ T.length := by
  intro l hl
  rcases List.mem_cons.1 hl with rfl | hl
  · exact ⟨(numsT_spec T).1, numsT_len T⟩
  · obtain ⟨m, _, rfl⟩ := List.mem_map.1 hl
    exact ⟨fit_up T m, fit_len T m⟩
theorem hvr_first {w w1 : World} {v : Value} {l : List Int} {T : TypeId} (hs : Sl w1 w.heap.size 1 v l.length (ic l)) (hb : Below w.heap.size w w1) :
    HvR w (w1.alloc (.cells #[v] T)) (.slice (some ⟨w1.heap.size, 0, none⟩) 1 1) [l] := by
  refine ⟨[v], rfl, Sl.lit w1 w.heap.size 1 1 #[v] T hb.size (by decide) rfl, fun j l' hl' => ?_, hb.alloc hb.size _⟩
  match j, hl' with
  | 0, hl' =>
    obtain rfl : l = l' := by simpa using hl'
    refine ⟨v, rfl, hs.alloc _, fun k e e2 => ?_⟩
    have h1 := (hs.lt k e).2
    have h2 : w1.heap.size = k := Option.some.inj e2
    omega

set_option maxHeartbeats 4000000 in
set_option maxRecDepth 100000 in
theorem select13_any {base b mh ml : Nat} {T : List Sr} (u : Value) (ms : List (Mr × Value)) (w : World) (h : Told base b mh ml T w) (hm : MsR w u ms) (hl : ms.length ≤ 1000) :
    Calls Tryz.prog 9 #[.pointer (some ⟨b, 0, none⟩), u] w (NewN w (selN T (ms.map (·.1)))) := by
  obtain ⟨i0, hi, hz0, hz1, hz2⟩ := info_parts bi_list13
  have Hz := Lib.hid hz0; have Hs := Lib.hid hz1; have Hb := Lib.hid hz2; have Hi := Lib.hid hi
  clear hz0 hz1 hz2 hi
  have HA := Lib.hid (told_all h)
  have H := Lib.hid h
  have HM := Lib.hid hm
  have HT := Lib.hid h.few
  obtain ⟨_, a, cap, g, off, rfl, hg, hc⟩ := hm.r
  obtain ⟨n, hn⟩ : ∃ n, n = ms.length := ⟨_, rfl⟩
  rw [← hn] at hg hc hl ⊢
  have HN := Lib.hid hn
  have HG := Lib.hid hg
  have HC := Lib.hid hc
  obtain ⟨NT, hNT⟩ : ∃ NT, NT = numsT T := ⟨_, rfl⟩
  rw [← hNT] at HA
  have HNT := Lib.hid hNT
  clear hn hg hc hm h hNT
  go_enter Tryz.func9, Tryz.ntmps9
  go_wp2_with fail
  refine HA.out.mono ?_
  rintro e w1 ⟨v1, rfl, s1, b1⟩
  obtain ⟨a1, c1, rfl⟩ := s1.slice
  have F1 := Lib.hid (show HvR w (w1.alloc (.cells #[.slice a1 NT.length c1] 39)) (.slice (some ⟨w1.heap.size, 0, none⟩) 1 1) (lsN T ((ms.map (·.1)).take 0)) by
    have := hvr_first (T := 39) s1 b1
    rw [HNT.out] at this
    rw [HNT.out]
    exact this)
  clear s1 b1 HA
  go_wp2_with fail
  go_loopw [5, 13] (fun p' i' wr => ∃ i : Nat, i' = .int .i64 i ∧ i ≤ n ∧ (∃ a c, p' = .slice a (i + 1) c) ∧ Hid (HvR w wr p' (lsN T ((ms.map (·.1)).take i)))) (fun _ i' _ => n - (intOf i').toNat)
  case atStart => exact ⟨0, rfl, by omega, ⟨_, _, rfl⟩, F1⟩
  case round =>
    obtain ⟨W0, rfl⟩ : ∃ W0, W0 = wr := ⟨_, rfl⟩
    obtain ⟨i, rfl, hi, ⟨pa, pc, rfl⟩, hst⟩ := hrel
    have HB := Lib.hid hst.out.below
    have hbz := HB.out.size
    by_cases hlt : i < n
    · obtain ⟨rfl, hgl⟩ := HG.out (by omega)
      have hll : i < ms.length := by have := HN.out; omega
      have hx0 : ms[i]? = some ms[i] := List.getElem?_eq_getElem hll
      have hpm : ms[i] ∈ ms := List.getElem_mem hll
      obtain ⟨p, hp⟩ : ∃ p, ms[i] = p := ⟨_, rfl⟩
      rw [hp] at hx0 hpm
      obtain ⟨m0, m1, m2⟩ := mcs_at ms i p hx0
      have LT := Lib.hid (lsN_take (T := T) (ms := ms.map (·.1)) (i := i) (m := p.1) (by rw [List.getElem?_map, hx0]; rfl))
      have hlen : (lsN T ((ms.map (·.1)).take i)).length = i + 1 := by rw [lsN_len, List.length_take, List.length_map]; omega
      have q0 := ((HB.out.cell (p := ⟨g, off + i * 3, none⟩) hgl).trans (HC.out (i * 3) (by omega))).trans m0
      have q1 := ((HB.out.cell (p := ⟨g, off + (i * 3 + 1), none⟩) hgl).trans (HC.out (i * 3 + 1) (by omega))).trans m1
      have q2 := ((HB.out.cell (p := ⟨g, off + (i * 3 + 2), none⟩) hgl).trans (HC.out (i * 3 + 2) (by omega))).trans m2
      rw [← Nat.add_assoc] at q1 q2
      obtain ⟨rp, hp1, hp2⟩ := HM.out.vs p hpm
      obtain ⟨_, a3, cap3, g3, off3, hv3, -, -⟩ := id rp
      rw [hv3] at q2
      have hil : (i : Int) < n := by omega
      obtain ⟨W1, hW1⟩ : ∃ W1, W1 = W0.alloc (.cells #[.int .i64 p.1.k, .string (bs p.1.n), .slice a3 p.1.vs.length cap3] 59) := ⟨_, rfl⟩
      have hh := heap_alloc_new W0 (.cells #[.int .i64 p.1.k, .string (bs p.1.n), .slice a3 p.1.vs.length cap3] 59)
      rw [← hW1] at hh
      have d0 := Lib.cell_of_heap hh 0; have d1 := Lib.cell_of_heap hh 1; have d2 := Lib.cell_of_heap hh 2
      simp at d0 d1 d2
      have b01 : Below W0.heap.size W0 W1 := by rw [hW1]; exact (Below.refl _ _).alloc (Nat.le_refl _) _
      have B01 := Lib.hid b01
      have bW := HB.out.trans (b01.mono hbz)
      have z1 := b01.size
      have CF := fitting_any p.1 p.2 W1 (H.out.on bW) (rp.on bW) hp1 hp2
      obtain ⟨F, hF⟩ : ∃ F, F = fitN T p.1 := ⟨_, rfl⟩
      rw [← hF] at CF LT
      unfold mrV at CF
      rw [hv3] at CF
      obtain ⟨kk, hkk⟩ : ∃ kk : Int, kk = (p.1.k : Int) := ⟨_, rfl⟩
      obtain ⟨nn, hnn⟩ : ∃ nn, nn = p.1.n := ⟨_, rfl⟩
      obtain ⟨nv, hnv⟩ : ∃ nv : Nat, nv = p.1.vs.length := ⟨_, rfl⟩
      rw [← hkk] at CF q0 d0 hW1
      rw [← hnn] at CF q1 d1 hW1
      rw [← hnv] at CF q2 d2 hW1
      have HCF := Lib.hid CF
      have HW1 := Lib.hid hW1
      have HST := Lib.hid hst.out
      have HLEN := Lib.hid hlen
      clear hx0 hpm m0 m1 m2 rp hp1 hp2 hv3 hW1 hh b01 bW CF hF hkk hnn hnv hst hp hlen
      go_wp2_with fail
      rw [← HW1.out]
      refine HCF.out.mono ?_
      rintro e w3 ⟨v3, rfl, s3, b3⟩
      obtain ⟨a4, c4, rfl⟩ := s3.slice
      have hz3 := b3.size
      have S3 := Lib.hid (s3.mono (base' := W0.heap.size) z1)
      have B3 := Lib.hid (B01.out.trans (b3.mono z1))
      obtain ⟨xs, hX⟩ := HST.out
      have HX := Lib.hid hX
      have own1 : Sl (w3.alloc (.cells #[.slice a4 F.length c4] 39)) w.heap.size 1 (.slice pa (i + 1) pc) (i + 1) xs := by
        have h1 := hX.2.1
        rw [HLEN.out] at h1
        exact (h1.on B3.out).alloc _
      have hlit := Lib.hid (Sl.lit w3 W0.heap.size 1 1 #[.slice a4 F.length c4] 39 (by omega) (by decide) rfl).cells
      have hone : ∀ u ∈ [Value.slice a4 F.length c4], u.oneCell' = true := by
        intro u hu
        rw [List.mem_singleton] at hu
        subst hu
        rfl
      have n3 : i + 1 + 1 ≤ maxLen := by unfold maxLen; omega
      have n4 : (i + 1 + 1) * 24 ≤ 140737488355328 := by omega
      have hb1 : w.heap.size ≤ (w3.alloc (.cells #[.slice a4 F.length c4] 39)).heap.size := by simp; omega
      clear s3 b3 HCF hX q0 q1 q2 d0 d1 d2
      go_wp2_with (at_builtin; refine wpList_append_sl _ rfl _ _ 69 rfl w.heap.size 39 i0 (.slice none 0 0) 1 24 Tryz.underlying69 Hi.out Hz.out Hs.out Hb.out rfl (by decide) _ (i + 1) _ rfl own1 ⟨w3.heap.size, 0, none⟩ 1 1 [.slice a4 F.length c4] rfl rfl hlit.out hone n3 n4 hb1 ?_; intro v4 w4 hx4; obtain ⟨a5, c5, rfl⟩ := hx4.now.slice)
      have e4 : Ext w.heap.size 1 (w3.alloc (.cells #[.slice a4 F.length c4] 39)) (.slice pa (i + 1) pc) (lsN T ((ms.map (·.1)).take i)).length xs w4 (.slice a5 (i + 1 + 1) c5) ((lsN T ((ms.map (·.1)).take i)).length + 1) (xs ++ [.slice a4 F.length c4]) := by rw [HLEN.out]; exact hx4
      have hP := HX.out.push B3.out S3.out e4
      rw [← LT.out] at hP
      exact ⟨⟨i + 1, by go_num, by omega, ⟨_, _, rfl⟩, Lib.hid hP⟩, by simp [intOf]; omega⟩
    · have hil : ¬ (i : Int) < n := by omega
      have htk : (ms.map (·.1)).take i = ms.map (·.1) := List.take_of_length_le (by rw [List.length_map]; have := HN.out; omega)
      have hh := hst.out
      rw [htk] at hh
      have hcl := lsN_each T (ms.map (·.1))
      have hgl := lsN_len T (ms.map (·.1))
      rw [List.length_map] at hgl
      have hT := HT.out
      have hN := HN.out
      have CA := both_any (.slice pa (i + 1) pc) (lsN T (ms.map (·.1))) W0 (hh.ncs (by omega) (fun l hl => by have := (hcl l hl).2; omega)) (fun l hl => (hcl l hl).1)
      have HAA := Lib.hid CA
      have HE := Lib.hid (show bothP (lsN T (ms.map (·.1))) = selN T (ms.map (·.1)) from rfl)
      clear hst hh htk hcl hgl hT hN CA
      go_wp2_with fail
      refine HAA.out.mono ?_
      rintro e w2 ⟨v2, rfl, s2, b2⟩
      rw [HE.out] at s2
      obtain ⟨a2, c2, rfl⟩ := s2.slice
      have S2 := Lib.hid (s2.mono hbz); have B2 := Lib.hid (HB.out.trans (b2.mono hbz))
      clear s2 b2 HAA
      go_wp2
      go_ret
      exact ⟨_, rfl, S2.out, B2.out⟩
end Go.Proofs.YtefhnjepocbodaaGreatDoor

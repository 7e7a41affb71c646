/- Layer 7: a chunk's bytes as samples. -/
import Derived.Test.YtajkleknjjpldaaDoorMOB
import Derived.Test.YtajkleknjjpldaaDoorMSl3
namespace Go.Proofs.YtajkleknjjpldaaDoor
open Go.RowKit Go.Lib

theorem zc_sm : (Tryd.prog.info? 27).map (fun i => (i.zero, i.size, i.bytes)) = some (some (.agg #[.int .i64 0, .int .u64 0]), 2, 16) := by kernel_rfl
theorem smc_one (l : List Xo.Sm) : ∀ u ∈ smc l, u.oneCell' = true := by
  intro u hu
  simp only [smc, List.mem_flatMap, List.mem_cons, List.mem_nil_iff, or_false] at hu
  obtain ⟨x, _, rfl | rfl⟩ := hu <;> rfl
theorem ChAt.sl {c : Nat} {A : Array Value} {l : List Xo.Sm} {w : World} (h : ChAt c A l w) : Sl w c 2 (.slice (Option.some ⟨c, 0, none⟩) l.length 120) l.length (smc l) := by
  have hg := h.ch.good.1
  refine ⟨smc_length l, .inr ⟨c, 0, 120, rfl, Nat.le_refl _, h.lt, by omega, by unfold maxLen; omega, fun j hj => ?_, fun j hj => ?_⟩⟩
  · obtain ⟨y, hy⟩ := h.some (0 + j) (by omega)
    exact ⟨by rw [hy]; rfl, h.frozen _⟩
  · rw [Nat.zero_add]
    have hi : j / 2 < l.length := by omega
    have hs := List.getElem?_eq_getElem hi
    have h1 := smc_at l (j / 2) _ hs
    have h2 := h.ch.at' (j / 2) _ hs
    rcases (by omega : j = j / 2 * 2 ∨ j = j / 2 * 2 + 1) with e | e
    · rw [e, h.cell]; exact h2.1.trans h1.1.symm
    · rw [e, h.cell]; exact h2.2.trans h1.2.symm

/-- A slice of samples, laid anew. -/
def NewS (w : World) (l : List Xo.Sm) (e : Ending) (w' : World) : Prop := ∃ a cap, e = .returned (.slice a l.length cap) ∧ Sl w' w.heap.size 2 (.slice a l.length cap) l.length (smc l) ∧ Below w.heap.size w w'

theorem run_isnil_sm (a : Option Addr) (n c : Nat) (w : World) : (binOp BinOp.eql 24 (.slice a n c) (.slice none 0 0)).run Tryd.prog w = .ok (.bool a.isNone) w := by
  have hu := run_underlying Tryd.underlying24
  have he : (Op.equal 24 (.slice a n c) (.slice none 0 0)).run Tryd.prog w = .ok a.isNone w := by
    show (Op.equalIn (9999 + 1) _ _ _).run _ _ = _
    unfold Op.equalIn
    simp only [Sem.run_bind, hu, Result.andThen]
    cases a <;> rfl
  simp [binOp, go_sem, he]

set_option maxHeartbeats 1000000 in
set_option maxRecDepth 100000 in
theorem clone_sm (g off cap n : Nat) (l : List Xo.Sm) (base : Nat) (w : World) (hs : Sl w base 2 (.slice (some ⟨g, off, none⟩) l.length cap) l.length (smc l)) (hnl : n = l.length) (hm : l.length ≤ 1000000) :
    Calls Tryd.prog 48 #[.slice (some ⟨g, off, none⟩) n cap] w (NewS w l) := by
  obtain ⟨i0, hi, hz0, hz1, hz2⟩ := info_parts zc_sm
  have Hz := Lib.hid hz0; have Hs := Lib.hid hz1; have Hb := Lib.hid hz2; have Hi := Lib.hid hi
  clear hz0 hz1 hz2 hi
  rw [← hnl] at hs
  have HN := Lib.hid hnl
  have n1 : 0 + n ≤ maxLen := by unfold maxLen; omega
  have n2 : (0 + n) * 16 ≤ 140737488355328 := by omega
  rw [← hnl] at hm
  clear hnl
  have hq := fun W => run_isnil_sm (some ⟨g, off, none⟩) n cap W
  go_enter Tryd.func48, Tryd.ntmps48
  go_wp2_with (at_builtin; refine wpList_append_sl2 _ rfl _ _ 24 rfl w.heap.size 27 i0 (.agg #[.int .i64 0, .int .u64 0]) 2 16 Tryd.underlying24 Hi.out Hz.out Hs.out Hb.out rfl (by decide) _ 0 _ rfl (Sl.lit w w.heap.size 2 0 #[] _ (Nat.le_refl _) (by decide) rfl) base _ n _ rfl (hs.alloc _) (smc_one _) n1 n2 (by simp) ?_; intro v' w1 hx)
  go_ret
  have hx1 := hx.now
  rw [Nat.zero_add] at hx1
  obtain ⟨a, cap', rfl⟩ := hx1.slice
  refine ⟨a, cap', by rw [← HN.out]; rfl, by rw [← HN.out]; exact hx1, ?_⟩
  exact ((Below.refl _ w).alloc (Nat.le_refl _) _).grown hx.grown (by simp) (fun k e => by have e2 : w.heap.size = k := Option.some.inj e; omega)

/-- What Samples answers. -/
def SamP (s : List UInt8) (w : World) (x : Ending) (w' : World) : Prop :=
  Below w.heap.size w w' ∧ if (Xo.samplesM s).1 = 0 then ∃ a cap, x = .returned (.tuple #[.slice a (Xo.samplesM s).2.length cap, .int .i64 0]) ∧ Sl w' w.heap.size 2 (.slice a (Xo.samplesM s).2.length cap) (Xo.samplesM s).2.length (smc (Xo.samplesM s).2)
    else x = .returned (.tuple #[.slice none 0 0, .int .i64 (Xo.samplesM s).1])
theorem SamP.no {s : List UInt8} {w w' : World} {er : Nat} {x : Ending} (h : (Xo.samplesM s).1 = er) (h0 : er ≠ 0) (hb : Below w.heap.size w w') (hx : x = .returned (.tuple #[.slice none 0 0, .int .i64 er])) : SamP s w x w' :=
  ⟨hb, by rw [if_neg (by omega), h]; exact hx⟩

set_option maxHeartbeats 1000000 in
set_option maxRecDepth 100000 in
theorem samples_any (C : Nat) (s : List UInt8) (w : World) (hs : s.length ≤ 1000000) (hT : Tabs C w) :
    Calls Tryd.prog 30 #[.string (bs s)] w (SamP s w) := by
  obtain ⟨hz, hsz⟩ := zero_of_info chZ_info
  obtain ⟨Z, hZ⟩ : ∃ Z, Z = chZ := ⟨_, rfl⟩
  have hch := chZ_ch
  rw [← hZ] at hz hch
  clear hZ
  have hZs := hch.size
  have hmx : (bs s).size ≤ maxLen := by rw [bs_size]; unfold maxLen; omega
  obtain ⟨n, rest, e1, h1⟩ : ∃ n rest e1, Leb.takeM s 120 = (n, rest, e1) := ⟨_, _, _, rfl⟩
  have T1 := Lib.hid (fun W => show Calls Tryd.prog 44 #[.string (bs s), .int .i64 120] W (fun e w' => e = .returned (.tuple #[.int .i64 n, .string (bs rest), .int .i64 e1]) ∧ Below W.heap.size W w') from
    (takeM_is (s := bs s) h1 W hmx (by omega) (by omega)).mono fun _ _ hx => ⟨hx.1, by obtain ⟨q, rfl⟩ := hx.2; exact below_draw (Below.refl _ _) q⟩)
  obtain ⟨k1, k2, k3, k4, k5⟩ := Leb.takeM_small h1 (by omega)
  by_cases hz1 : e1 = 0
  · subst hz1
    have hn120 : n ≤ 120 := by have := k4 rfl; omega
    obtain ⟨size, rest2, e2, h2⟩ : ∃ n r e, Leb.takeM rest 9223372036854775807 = (n, r, e) := ⟨_, _, _, rfl⟩
    have hmx2 : (bs rest).size ≤ maxLen := by rw [bs_size]; unfold maxLen; omega
    have T2 := Lib.hid (fun W => show Calls Tryd.prog 44 #[.string (bs rest), .int .i64 9223372036854775807] W (fun e w' => e = .returned (.tuple #[.int .i64 size, .string (bs rest2), .int .i64 e2]) ∧ Below W.heap.size W w') from
      (takeM_is (s := bs rest) h2 W hmx2 (by omega) (by omega)).mono fun _ _ hx => ⟨hx.1, by obtain ⟨q, rfl⟩ := hx.2; exact below_draw (Below.refl _ _) q⟩)
    obtain ⟨j1, j2, j3, j4, j5⟩ := Leb.takeM_small h2 (by omega)
    by_cases hz2 : e2 = 0
    · subst hz2
      have h22 : (Xo.samplesM s) = if (Xo.readM rest2 (min size (8 * rest2.length)) n [] Xo.tr0 (0, 0)).1 ≠ 0 then ((Xo.readM rest2 (min size (8 * rest2.length)) n [] Xo.tr0 (0, 0)).1, []) else if Xo.text (Xo.readM rest2 (min size (8 * rest2.length)) n [] Xo.tr0 (0, 0)).2 ≠ s then (3, []) else (0, (Xo.readM rest2 (min size (8 * rest2.length)) n [] Xo.tr0 (0, 0)).2) := by
        unfold Xo.samplesM
        rw [h1]
        simp only
        rw [if_neg (by simp), h2]
        simp only
        rw [if_neg (by simp)]
      have hr2 : rest2.length ≤ 1000000 := by omega
      have HO := Lib.hid (fun W => over_any rest2 (size : Int) W hr2 (by omega) (by omega))
      rw [show min (max (size : Int) 0).toNat (8 * rest2.length) = min size (8 * rest2.length) by omega] at HO
      obtain ⟨nb, hnb⟩ : ∃ nb, nb = min size (8 * rest2.length) := ⟨_, rfl⟩
      rw [← hnb] at HO h22
      have HRD := Lib.hid (fun e W (hE : EyeAt e rest2 0 nb 0 W) (hT : Tabs C W) (hC : C ≤ e) => read_any C e n nb rest2 W hE hT hC hn120)
      have HS := Lib.hid h22
      have hCw := hT.hB
      clear h22 hnb h1 h2 hmx2 k1 k2 k3 k4 k5 j1 j2 j3 j4 j5
      go_enter Tryd.func30, Tryd.ntmps30
      go_wp2_with fail
      refine (T1.out _).mono ?_
      rintro x w1 ⟨rfl, b1⟩
      go_wp2_with fail
      refine (T2.out _).mono ?_
      rintro x w2 ⟨rfl, b2⟩
      go_wp2_with fail
      refine (HO.out _).mono ?_
      rintro x w3 ⟨rfl, E3, b3⟩
      have b02 : Below w.heap.size w w2 := b1.trans (b2.mono b1.size)
      have b03 : Below w.heap.size w w3 := b02.trans (b3.mono b02.size)
      have hT3 := hT.below b03 hCw
      have hC2 : C ≤ w2.heap.size := Nat.le_trans hCw b02.size
      have HRD3 := Lib.hid (HRD.out w2.heap.size w3 E3 hT3 hC2)
      go_wp2_with fail
      refine HRD3.out.mono ?_
      rintro x w4 ⟨A, rfl, hAs, hA1, hAc, u4⟩
      have b04 : Below w.heap.size w w4 := b03.trans (u4.below b03.size (fun k hk => by rw [hk]; exact b02.size))
      obtain ⟨q1, q2, hq⟩ : ∃ q1 q2, Xo.readM rest2 nb n [] Xo.tr0 (0, 0) = (q1, q2) := ⟨_, _, rfl⟩
      rw [hq] at hAc HS ⊢
      simp only at hAc HS ⊢
      have hzA : Z.size = A.size := by rw [hZs, hAs]
      have hszA : (Tryd.prog.info? 49).map (·.size) = some A.size := by rw [hAs]; exact hsz
      have hnew := heap_alloc_new w4 (.cells Z 49)
      have hrow := World.setRow_alloc_new w4 Z A 49
      have hch4 : (w4.alloc (.cells A 49)).heap[w4.heap.size]? = some (.cells A 49 (0, 0)) := heap_alloc_new _ _
      have b05 : Below w.heap.size w (w4.alloc (.cells A 49)) := b04.alloc b04.size _
      have hT5 := hT.below b05 hCw
      by_cases hq1 : q1 = 0
      · have hC5 : ChAt w4.heap.size A q2 (w4.alloc (.cells A 49)) := ⟨hAc hq1, hch4⟩
        subst hq1
        have HS2 := HS.out
        rw [if_neg (by simp)] at HS2
        have hBS := bs_toList
        have TX := Lib.hid (text_chunk C w4.heap.size A q2 _ hC5 hT5)
        by_cases heq : Xo.text q2 = s
        · rw [if_neg (by simp [heq])] at HS2
          have HS3 := Lib.hid HS2
          rw [heq] at TX
          clear HS2 heq HS hT hT3 E3 u4 b1 b2 b3 hAc hq b02 b03 b04 T1 T2 HO HRD HRD3
          have hql := hC5.ch.good.1
          have hqi : (q2.length : Int) ≤ 120 := by omega
          have hlt5 := hC5.lt
          have CL := Lib.hid (fun W (h : ChAt w4.heap.size A q2 W) => clone_sm w4.heap.size 0 120 q2.length q2 w4.heap.size W h.sl rfl (by omega))
          go_wp2_with (first
            | (refine wpList_store_row rfl 49 _ _ rfl w4.heap.size A rfl rfl 49 Z hnew hszA hzA hA1 ?_; rw [hrow])
            | (go_at_call 14; refine TX.out.mono ?_; rintro x w5 ⟨rfl, b5⟩; have hC6 := hC5.keep (b5.block _ hlt5); have c240 := hC6.n)
            | (go_at_call 48; refine (CL.out _ hC6).mono ?_; rintro x w6 ⟨ca, ccap, rfl, sl6, b6⟩))
          go_ret2
          have b06 := b05.trans (b5.mono b05.size)
          refine ⟨b06.trans (b6.mono b06.size), ?_⟩
          rw [HS3.out, if_pos rfl]
          exact ⟨ca, ccap, rfl, sl6.mono b06.size⟩
        · rw [if_pos (by simpa using heq)] at HS2
          have hne : ((bs (Xo.text q2)).toList == (bs s).toList) = false := by rw [bs_toList, bs_toList]; simpa using heq
          have HS3 := Lib.hid (show (Xo.samplesM s).1 = 3 by rw [HS2])
          obtain ⟨S3, hS3⟩ : ∃ S3, S3 = bs (Xo.text q2) := ⟨_, rfl⟩
          rw [← hS3] at TX hne
          clear HS2 heq HS hT hT3 E3 u4 b1 b2 b3 hAc hq b02 b03 b04 T1 T2 HO HRD HRD3 hS3 hBS
          go_wp2_with (first
            | (refine wpList_store_row rfl 49 _ _ rfl w4.heap.size A rfl rfl 49 Z hnew hszA hzA hA1 ?_; rw [hrow])
            | (go_at_call 14; refine TX.out.mono ?_; rintro x w5 ⟨rfl, b5⟩))
          go_ret2
          exact SamP.no HS3.out (by decide) (b05.trans (b5.mono b05.size)) rfl
      · have hqz : ((q1 : Int) == 0) = false := by simp; omega
        have HS2 := HS.out
        rw [if_pos hq1] at HS2
        have HS3 := Lib.hid (show (Xo.samplesM s).1 = q1 by rw [HS2])
        clear HS2 HS hT hT3 E3 u4 b1 b2 b3 hAc hq b02 b03 b04 T1 T2 HO HRD HRD3
        go_wp2_with (refine wpList_store_row rfl 49 _ _ rfl w4.heap.size A rfl rfl 49 Z hnew hszA hzA hA1 ?_; rw [hrow])
        go_ret2
        exact SamP.no HS3.out hq1 b05 rfl
    · have e22 : ((e2 : Int) == 0) = false := by simp; omega
      have HS3 := Lib.hid (show (Xo.samplesM s).1 = e2 by
        unfold Xo.samplesM
        rw [h1]
        simp only
        rw [if_neg (by simp), h2]
        simp only
        rw [if_pos hz2])
      clear h1 h2 hT
      go_enter Tryd.func30, Tryd.ntmps30
      go_wp2_with fail
      refine (T1.out _).mono ?_
      rintro x w1 ⟨rfl, b1⟩
      go_wp2_with fail
      refine (T2.out _).mono ?_
      rintro x w2 ⟨rfl, b2⟩
      go_wp2_with fail
      go_ret2
      exact SamP.no HS3.out hz2 (b1.trans (b2.mono b1.size)) rfl
  · have e11 : ((e1 : Int) == 0) = false := by simp; omega
    have HS3 := Lib.hid (show (Xo.samplesM s).1 = e1 by
      unfold Xo.samplesM
      rw [h1]
      simp only
      rw [if_pos hz1])
    clear h1 hT
    go_enter Tryd.func30, Tryd.ntmps30
    go_wp2_with fail
    refine (T1.out _).mono ?_
    rintro x w1 ⟨rfl, b1⟩
    go_wp2_with fail
    go_ret2
    exact SamP.no HS3.out hz1 b1 rfl
end Go.Proofs.YtajkleknjjpldaaDoor

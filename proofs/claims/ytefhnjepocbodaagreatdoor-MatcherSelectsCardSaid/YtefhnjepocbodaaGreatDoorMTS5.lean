/- Layer 13: the document's Select, walked. Layer 13: answers that the document fixes. Layer 13: SELECT IS MATCH: the law. -/
import Derived.Test.YtefhnjepocbodaaGreatDoorMTS3
import Derived.Test.YtefhnjepocbodaaGreatDoorMTMD
import Derived.Test.YtefhnjepocbodaaGreatDoorMTM7
import Derived.Test.YtefhnjepocbodaaGreatDoorMIY5
namespace Go.Proofs.YtefhnjepocbodaaGreatDoor
open Go.RowKit Go.Lib
set_option linter.unusedVariables false

theorem rselN_take {T : List Sr} {ms : List Mr} {i : Nat} {s : Sr} (h : T[i]? = some s) : rselN (T.take (i + 1)) ms = if matchB s.ps ms = true then putZ (rselN (T.take i) ms) s.n else rselN (T.take i) ms := by
  rw [List.take_add_one, h]
  unfold rselN
  rw [show (some s).toList = [s] from rfl, List.foldl_append]
  rfl
theorem rselN_len (T : List Sr) (ms : List Mr) : (rselN T ms).length ≤ T.length := by
  have nd : ∀ {l : List Int}, Up l → l.Nodup := fun h => h.imp (fun h => Int.ne_of_lt h)
  refine Nat.le_trans ((nd (rsel_spec T ms).1).length_le_of_subset (l₂ := numsT T) fun n hn => ?_) (numsT_len T)
  obtain ⟨s, hs, e, _⟩ := ((rsel_spec T ms).2 n).1 hn
  exact ((numsT_spec T).2 n).2 ⟨s, hs, e⟩

set_option maxHeartbeats 4000000 in
set_option maxRecDepth 100000 in
theorem rsel13_any (v u : Value) (qs : List Sx) (ms : List (Mr × Value)) (w : World) (h : TdR w v qs) (hm : MsR w u ms) (hgd : ∀ p ∈ ms, 1 ≤ p.1.k ∧ (p.1.k = 3 → p.1.vs.length = 1)) (hl : ms.length ≤ 1000) :
    Calls Tryz.prog 10 #[v, u] w (NewN w (rselN (qs.map Sx.sr) (ms.map (·.1)))) := by
  obtain ⟨T, hTd⟩ : ∃ T, T = qs.map Sx.sr := ⟨_, rfl⟩
  obtain ⟨N, hN⟩ : ∃ N, N = qs.length := ⟨_, rfl⟩
  have hTN : T.length = N := by rw [hTd, List.length_map, hN]
  have hN12 : N ≤ 12 := by rw [hN]; exact h.len
  obtain ⟨M, hM⟩ : ∃ M, M = ms.map (·.1) := ⟨_, rfl⟩
  have HM := Lib.hid hm
  have RM := Lib.hid (fun u2 ds W (b : Below w.heap.size w W) (hr : Rd W 2 u2 ds.length (prc ds)) (hd : ds.length ≤ 10) => rmatch13_any u2 u ds ms W hr (by omega) (hm.on b) hgd (by omega))
  rw [← hM] at RM
  obtain ⟨_, ua, ucap, ug, uoff, rfl, -, -⟩ := hm.r
  obtain ⟨un, hun⟩ : ∃ un, un = ms.length := ⟨_, rfl⟩
  rw [← hun] at RM ⊢
  rw [← hTd, ← hM]
  have HTd := Lib.hid hTd
  have H := Lib.hid h
  obtain ⟨_, va, vcap, vg, voff, rfl, -, -⟩ := h.rd
  rw [← hN] at H ⊢
  have HN := Lib.hid hN
  have HTN := Lib.hid hTN
  clear h hm hTd hN hTN hM hun
  go_enter Tryz.func10, Tryz.ntmps10
  go_wp2_with fail
  go_loopw [5, 11] (fun o' i' wr => ∃ (i k : Nat), i' = .int .i64 i ∧ i ≤ N ∧ k ≤ i ∧ Hid (k = (rselN (T.take i) M).length) ∧ (∃ a c, o' = .slice a k c) ∧ Hid (Sl wr w.heap.size 1 o' k (ic (rselN (T.take i) M))) ∧ Below w.heap.size w wr) (fun _ i' _ => N - (RowKit.intOf i').toNat)
  case atStart => exact ⟨0, 0, rfl, by omega, by omega, Lib.hid rfl, ⟨_, _, rfl⟩, Lib.hid (Sl.lit w w.heap.size 1 0 #[] _ (Nat.le_refl _) (by decide) rfl), (Below.refl _ _).alloc (Nat.le_refl _) _⟩
  case round =>
    obtain ⟨W0, rfl⟩ : ∃ W0, W0 = wr := ⟨_, rfl⟩
    obtain ⟨i, k, rfl, hi, hki, hk, ⟨oa, oc, rfl⟩, hs, hb⟩ := hrel
    have hbz := hb.size
    by_cases hlt : i < N
    · obtain ⟨q, hq⟩ : ∃ q, qs[i]? = some q := ⟨qs[i]'(by have := HN.out; omega), List.getElem?_eq_getElem (by have := HN.out; omega)⟩
      have R0 := (show TdR W0 _ qs from H.out.on hb)
      obtain ⟨g, off, cap', pa, pc, he, hqv, hgl, r0, r1⟩ := R0.at_ hq
      rw [← HN.out] at he
      cases he
      obtain ⟨hprd, hpl⟩ := R0.each q (List.mem_of_getElem? hq)
      rw [hqv] at hprd
      have hTi : T[i]? = some q.sr := by rw [HTd.out, List.getElem?_map, hq]; rfl
      have HTI := Lib.hid (rselN_take (ms := M) hTi)
      obtain ⟨K, hK⟩ : ∃ K, K = q.ps.length := ⟨_, rfl⟩
      have HPR := Lib.hid hprd
      rw [← hK] at r1
      have HK := Lib.hid hK
      have HPL := Lib.hid hpl
      obtain ⟨qn, hqn⟩ : ∃ qn, qn = q.n := ⟨_, rfl⟩
      rw [← hqn] at r0
      have HQN := Lib.hid hqn
      have hil : (i : Int) < N := by omega
      obtain ⟨W1, hW1⟩ : ∃ W1, W1 = W0.alloc (.cells #[.int .i64 qn, .slice pa K pc] 34) := ⟨_, rfl⟩
      have hbx : W1.heap[W0.heap.size]? = some (.cells #[.int .i64 qn, .slice pa K pc] 34) := by rw [hW1]; exact heap_alloc_new W0 _
      have b1 : Below W0.heap.size W0 W1 := by rw [hW1]; exact (Below.refl _ _).alloc (Nat.le_refl _) _
      have zW1 : W0.heap.size < W1.heap.size := (Array.getElem?_eq_some_iff.1 hbx).1
      have CM := Lib.hid (show Calls Tryz.prog 26 #[.slice pa K pc, .slice ua un ucap] W1 (fun e w' => e = .returned (.bool (matchB q.sr.ps M)) ∧ Below W1.heap.size W1 w') from by
        have := RM.out (.slice pa K pc) q.ps W1 (hb.trans (b1.mono hbz)) (by rw [HK.out]; exact HPR.out.on b1) HPL.out
        exact this)
      obtain ⟨r, hr⟩ : ∃ r, matchB q.sr.ps M = r := ⟨_, rfl⟩
      rw [hr] at CM HTI
      have HBX := Lib.hid hbx
      have B1 := Lib.hid b1
      have HW1 := Lib.hid hW1
      have HS := Lib.hid hs.out
      have HKK := Lib.hid hk.out
      have HB := Lib.hid hb
      clear hq hqv hprd hK hqn hs hk hb hW1 hbx b1 R0 hTi hpl hr
      cases r with
      | false =>
        have HT2 := Lib.hid (show rselN (T.take (i + 1)) M = rselN (T.take i) M by rw [HTI.out]; rfl)
        clear HTI
        go_wp2_with fail
        rw [← HW1.out]
        refine CM.out.mono ?_
        rintro e W2 ⟨rfl, b2⟩
        have b02 := B1.out.trans (b2.mono B1.out.size)
        have HS2 := Lib.hid (show Sl W2 w.heap.size 1 (.slice oa k oc) k (ic (rselN (T.take (i + 1)) M)) by rw [HT2.out]; exact HS.out.on b02)
        have HB2 := Lib.hid (HB.out.trans (b02.mono hbz))
        clear b02 b2 CM r0 r1
        go_wp2_with fail
        exact ⟨⟨i + 1, k, by go_num, by omega, by omega, Lib.hid (by rw [HT2.out]; exact HKK.out), ⟨_, _, rfl⟩, HS2, HB2.out⟩, by simp [RowKit.intOf]; omega⟩
      | true =>
        have HT2 := Lib.hid (show rselN (T.take (i + 1)) M = putZ (rselN (T.take i) M) qn by rw [HTI.out, HQN.out]; rfl)
        clear HTI
        go_wp2_with fail
        rw [← HW1.out]
        refine CM.out.mono ?_
        rintro e W2 ⟨rfl, b2⟩
        have b02 := B1.out.trans (b2.mono B1.out.size)
        have hbx2 : W2.heap[W0.heap.size]? = some (.cells #[.int .i64 qn, .slice pa K pc] 34) := (b2.block _ zW1).trans HBX.out
        have k0 : W2.cell? ⟨W0.heap.size, 0, none⟩ = some (.int .i64 qn) := Lib.cell_of_heap hbx2 0
        have hb2z := b02.size
        have PUT := Lib.hid (rput_any (.slice oa k oc) (rselN (T.take i) M) qn W2 (by have := HS.out.on b02; rw [HKK.out] at this ⊢; exact Ns.of_sl this (by have := HKK.out; omega)))
        have HB2 := Lib.hid (HB.out.trans (b02.mono hbz))
        have hpl2 := putZ_len (rselN (T.take i) M) qn
        rw [← HKK.out] at hpl2
        rw [← HT2.out] at PUT hpl2
        obtain ⟨k4, hk4⟩ : ∃ k4, k4 = (rselN (T.take (i + 1)) M).length := ⟨_, rfl⟩
        rw [← hk4] at hpl2
        have HK4 := Lib.hid hk4
        clear b02 b2 CM r0 r1 hbx2 hk4
        go_wp2_with fail
        refine PUT.out.mono ?_
        rintro e W4 ⟨v4, rfl, s4, b4⟩
        rw [← HK4.out] at s4
        obtain ⟨a4, c4, rfl⟩ := s4.slice
        have S4 := Lib.hid (s4.mono (base' := w.heap.size) (by omega))
        have HB4 := Lib.hid (HB2.out.trans (b4.mono HB2.out.size))
        clear s4 b4 PUT
        go_wp2_with fail
        exact ⟨⟨i + 1, k4, by go_num, by omega, by omega, HK4, ⟨_, _, rfl⟩, S4, HB4.out⟩, by simp [RowKit.intOf]; omega⟩
    · have hil : ¬ (i : Int) < N := by omega
      have htk : T.take i = T := List.take_of_length_le (by have := HTN.out; omega)
      have HS := Lib.hid (show Sl W0 w.heap.size 1 (.slice oa k oc) (rselN T M).length (ic (rselN T M)) by
        have h1 := hs.out; have h2 := hk.out
        rw [htk] at h1 h2
        rw [← h2]; exact h1)
      have HB := Lib.hid hb
      clear hs hk htk hb
      go_wp2_with fail
      go_ret
      exact ⟨_, rfl, HS.out, HB.out⟩
end Go.Proofs.YtefhnjepocbodaaGreatDoor

namespace Go.Proofs.YtefhnjepocbodaaGreatDoor
open Go.RowKit Go.Lib
set_option linter.unusedVariables false

def txA : List UInt8 := [106, 111, 98, 61, 97, 112, 105, 44, 122, 111, 110, 101, 33, 61, 97, 44, 104, 111, 115, 116, 94, 119, 101, 98, 44, 120, 64, 49, 124, 50]
def txB : List UInt8 := [106, 111, 98, 61, 97, 112, 105, 44, 104, 111, 115, 116, 61, 119, 101, 98, 49, 44, 120, 61, 50]
def msA : List Mr := [⟨1, [106, 111, 98], [[97, 112, 105]]⟩, ⟨2, [122, 111, 110, 101], [[97]]⟩, ⟨3, [104, 111, 115, 116], [[119, 101, 98]]⟩, ⟨4, [120], [[49], [50]]⟩]
def prB : List Pr := [⟨[104, 111, 115, 116], [119, 101, 98, 49]⟩, ⟨[106, 111, 98], [97, 112, 105]⟩, ⟨[120], [50]⟩]
set_option maxRecDepth 100000 in
theorem parseA (W : World) : Calls Tryz.prog 19 #[.string (bs txA)] W fun e w' => ∃ v l, e = .returned (.tuple #[v, .int .i64 0]) ∧ l.map (·.1) = msA ∧ MsR w' v l ∧ Below W.heap.size W w' := by
  have hm : (parts 44 txA).map mrOf = msA := by
    have e : parts 44 txA = [[106, 111, 98, 61, 97, 112, 105], [122, 111, 110, 101, 33, 61, 97], [104, 111, 115, 116, 94, 119, 101, 98], [120, 64, 49, 124, 50]] := by decide
    rw [e]
    rfl
  refine (parse13_any txA W (by decide) (Asc.of_all (by decide)) (by decide) ?_).mono ?_
  · intro p hp
    have e : parts 44 txA = [[106, 111, 98, 61, 97, 112, 105], [122, 111, 110, 101, 33, 61, 97], [104, 111, 115, 116, 94, 119, 101, 98], [120, 64, 49, 124, 50]] := by decide
    rw [e] at hp
    simp only [List.mem_cons, List.not_mem_nil, or_false] at hp
    rcases hp with rfl | rfl | rfl | rfl <;> rfl
  · rintro e w' ⟨v, l, rfl, h1, h2, h3⟩
    rw [hm] at h1
    refine ⟨v, l, rfl, h1, h2.rd fun p hp => ?_, h3⟩
    have : p.1 ∈ msA := by rw [← h1]; exact List.mem_map_of_mem hp
    simp only [msA, List.mem_cons, List.not_mem_nil, or_false] at this
    rcases this with e | e | e | e <;> rw [e] <;> exact ⟨by simp, by simp⟩
theorem parseB (W : World) : Calls Tryz.prog 20 #[.string (bs txB)] W fun e w' => ∃ v, e = .returned (.tuple #[v, .int .i64 0]) ∧ Sl w' W.heap.size 2 v 3 (prc prB) ∧ Below W.heap.size W w' := by
  refine (parse_lb txB W (by decide)).mono ?_
  rintro e w' ⟨v, er, rfl, hb, hm⟩
  have hp : pairsL (parts 44 txB) = some [⟨[106, 111, 98], [97, 112, 105]⟩, ⟨[104, 111, 115, 116], [119, 101, 98, 49]⟩, ⟨[120], [50]⟩] := by decide
  have hs : sortP [⟨[106, 111, 98], [97, 112, 105]⟩, ⟨[104, 111, 115, 116], [119, 101, 98, 49]⟩, ⟨[120], [50]⟩] = prB := (sortP_of (List.Perm.swap _ _ _) (by unfold Rising; decide)).symm
  rw [hp] at hm
  simp only [hs] at hm
  rw [if_pos (by decide)] at hm
  obtain ⟨rfl, h2⟩ := hm
  exact ⟨v, rfl, h2, hb⟩

set_option maxHeartbeats 2000000 in
set_option maxRecDepth 100000 in
theorem awake13_any (w : World) : Calls Tryz.prog 7 #[] w fun e w' => e = .returned (.bool true) ∧ Below w.heap.size w w' := by
  have PA := Lib.hid parseA
  have PB := Lib.hid parseB
  obtain ⟨tA, hA⟩ : ∃ t, t = txA := ⟨_, rfl⟩
  obtain ⟨tB, hB⟩ : ∃ t, t = txB := ⟨_, rfl⟩
  have kA : ByteArray.mk #[106, 111, 98, 61, 97, 112, 105, 44, 122, 111, 110, 101, 33, 61, 97, 44, 104, 111, 115, 116, 94, 119, 101, 98, 44, 120, 64, 49, 124, 50] = bs tA := by rw [hA]; rfl
  have kB : ByteArray.mk #[106, 111, 98, 61, 97, 112, 105, 44, 104, 111, 115, 116, 61, 119, 101, 98, 49, 44, 120, 61, 50] = bs tB := by rw [hB]; rfl
  rw [← hA] at PA
  rw [← hB] at PB
  clear hA hB
  go_enter Tryz.func7, Tryz.ntmps7
  go_wp2_with fail
  refine (PA.out _).mono ?_
  rintro e w1 ⟨v, l, rfl, h1, hm, b1⟩
  have hl4 : l.length = 4 := by have := congrArg List.length h1; simpa [msA] using this
  obtain ⟨p0, p1, p2, p3, rfl⟩ : ∃ p0 p1 p2 p3, l = [p0, p1, p2, p3] := by
    match l, hl4 with
    | [a, b, c, d], _ => exact ⟨a, b, c, d, rfl⟩
  have hm0 : p0.1 = ⟨1, [106, 111, 98], [[97, 112, 105]]⟩ := by simp only [msA, List.map_cons, List.cons.injEq] at h1; exact h1.1
  have hm1 : p1.1 = ⟨2, [122, 111, 110, 101], [[97]]⟩ := by simp only [msA, List.map_cons, List.cons.injEq] at h1; exact h1.2.1
  have HM := Lib.hid hm
  obtain ⟨_, a, cap, g, off, rfl, hg, hc⟩ := hm.r
  obtain ⟨rfl, hgl⟩ := hg (by simp)
  have c0 : w1.cell? ⟨g, off, none⟩ = some (Value.int .i64 p0.1.k) := hc 0 (by simp)
  have c1 : w1.cell? ⟨g, off + 1, none⟩ = some (Value.string (bs p0.1.n)) := hc 1 (by simp)
  have c2 : w1.cell? ⟨g, off + 2, none⟩ = some p0.2 := hc 2 (by simp)
  have c3 : w1.cell? ⟨g, off + 3, none⟩ = some (Value.int .i64 p1.1.k) := hc 3 (by simp)
  have c4 : w1.cell? ⟨g, off + 4, none⟩ = some (Value.string (bs p1.1.n)) := hc 4 (by simp)
  have c5 : w1.cell? ⟨g, off + 5, none⟩ = some p1.2 := hc 5 (by simp)
  obtain ⟨r0, -, -⟩ := hm.vs p0 (by simp)
  obtain ⟨r1, -, -⟩ := hm.vs p1 (by simp)
  have R0 := Lib.hid r0; have R1 := Lib.hid r1
  obtain ⟨_, a0, cap0, g0, off0, hv0, -, -⟩ := r0
  obtain ⟨_, a1, cap1, g1, off1, hv1, -, -⟩ := r1
  have F0 := Lib.hid (fun W b => show Calls Tryz.prog 22 #[mrV p0.1 p0.2, .string (bs [113])] W (fun e w' => e = .returned (.bool false) ∧ Below W.heap.size W w') from by
    have := fits13_any p0.1 p0.2 [113] W (R0.out.on b) (by rw [hm0]; simp) (by rw [hm0]; simp)
    rw [show fitB p0.1 [113] = false by rw [hm0]; decide] at this
    exact this)
  have F1 := Lib.hid (fun W b => show Calls Tryz.prog 22 #[mrV p1.1 p1.2, .string (bs [])] W (fun e w' => e = .returned (.bool true) ∧ Below W.heap.size W w') from by
    have := fits13_any p1.1 p1.2 [] W (R1.out.on b) (by rw [hm1]; simp) (by rw [hm1]; simp)
    rw [show fitB p1.1 [] = true by rw [hm1]; decide] at this
    exact this)
  have MT := Lib.hid (fun v2 W (b : Below w1.heap.size w1 W) (h : Rd W 2 v2 3 (prc prB)) => show Calls Tryz.prog 21 #[v2, .slice (some ⟨g, off, none⟩) 4 cap] W (fun e w' => e = .returned (.bool true) ∧ Below W.heap.size W w') from by
    have := match13_any v2 _ prB [p0, p1, p2, p3] W h (by decide) (HM.out.on b) (by simp)
    rw [h1, show matchB prB msA = true by decide] at this
    exact this)
  unfold mrV at F0 F1
  rw [hv0] at F0 c2
  rw [hv1] at F1 c5
  rw [hm0] at c0 c1 c2 F0
  rw [hm1] at c3 c4 c5 F1
  simp only at c0 c1 c2 c3 c4 c5 F0 F1
  have B1 := Lib.hid b1
  clear h1 hm hg hc hm0 hm1 hv0 hv1 R0 R1 HM PA hl4 b1
  go_wp2_with fail
  refine (PB.out _).mono ?_
  rintro e w2 ⟨v2, rfl, s2, b2⟩
  have M2 := Lib.hid (MT.out v2 w2 b2 (Rd.of_sl s2))
  obtain ⟨a2, c2x, rfl⟩ := s2.slice
  have B2 := Lib.hid (B1.out.trans (b2.mono B1.out.size))
  have BB2 := Lib.hid b2
  clear PB MT s2 B1
  go_wp2_with fail
  refine M2.out.mono ?_
  rintro e w3 ⟨rfl, b3⟩
  have b13 := BB2.out.trans (b3.mono BB2.out.size)
  have B3 := Lib.hid (B2.out.trans (b3.mono B2.out.size))
  have G0 := Lib.hid (F0.out w3 b13)
  have d0 := (b13.cell (p := ⟨g, off, none⟩) hgl).trans c0
  have d1 := (b13.cell (p := ⟨g, off + 1, none⟩) hgl).trans c1
  have d2 := (b13.cell (p := ⟨g, off + 2, none⟩) hgl).trans c2
  have B13 := Lib.hid b13
  clear b3 b2 M2 B2 BB2 F0 b13 c0 c1 c2
  go_wp2_with fail
  refine G0.out.mono ?_
  rintro e w4 ⟨rfl, b4⟩
  have b14 := B13.out.trans (b4.mono B13.out.size)
  have B4 := Lib.hid (B3.out.trans (b4.mono B3.out.size))
  have G1 := Lib.hid (F1.out w4 b14)
  have d3 := (b14.cell (p := ⟨g, off + 3, none⟩) hgl).trans c3
  have d4 := (b14.cell (p := ⟨g, off + 4, none⟩) hgl).trans c4
  have d5 := (b14.cell (p := ⟨g, off + 5, none⟩) hgl).trans c5
  clear b14 b4 G0 d0 d1 d2 c3 c4 c5 F1 B3 B13
  go_wp2_with fail
  refine G1.out.mono ?_
  rintro e w5 ⟨rfl, b5⟩
  go_wp2_with fail
  go_ret
  exact ⟨rfl, B4.out.trans (b5.mono B4.out.size)⟩
end Go.Proofs.YtefhnjepocbodaaGreatDoor

namespace Go.Proofs.YtefhnjepocbodaaGreatDoor
open Go.RowKit Go.Lib
set_option linter.unusedVariables false

theorem Told.own {base b mh ml : Nat} {T : List Sr} {w : World} (h : Told base b mh ml T w) : OwnT T := ⟨h.nums, fun s hs => (h.small s hs).2.1⟩
theorem FwR.r1S {w W : World} {v1 v2 : Value} {ms : List (Mr × Value)} (h : FwR w W v1 v2 ms) : MsR W v1 ms := ⟨Rd.of_sl h.s1, fun p hp => ⟨Rd.of_sl (h.ps p hp).1, by have := (h.ps p hp).2.2.2.2.2.1; omega, (h.ps p hp).2.2.2.2.1⟩⟩
theorem FwR.r2S {w W : World} {v1 v2 : Value} {ms : List (Mr × Value)} (h : FwR w W v1 v2 ms) : MsR W v2 ms := ⟨Rd.of_sl h.s2, fun p hp => ⟨Rd.of_sl (h.ps p hp).1, by have := (h.ps p hp).2.2.2.2.2.1; omega, (h.ps p hp).2.2.2.2.1⟩⟩

set_option maxHeartbeats 4000000 in
set_option maxRecDepth 100000 in
theorem mselects_any (a0 : Option Addr) (len0 cap0 : Nat) (zs : List Oi) (a1 : Option Addr) (len1 cap1 : Nat) (ys : List Om) (w : World) (h : OsR w a0 len0 zs) (w1 : OmR w a1 len1 ys) :
    Calls Tryz.prog 3 #[.slice a0 len0 cap0, .slice a1 len1 cap1] w fun e w' => e = .returned (.bool true) ∧ Below w.heap.size w w' := by
  have hT := bs_toList
  have GROW := Lib.hid (grow12_any a0 len0 cap0 zs w h)
  have hzl := h.hl
  have HPS := Lib.hid h.ps
  have FW := Lib.hid (fun W (b : Below w.heap.size w W) => few13_any a1 len1 cap1 ys W (w1.on b))
  have AW := Lib.hid (fun W => awake13_any W)
  have HZL := Lib.hid (show zs.length ≤ 12 by omega)
  clear h hzl w1
  go_enter Tryz.func3, Tryz.ntmps3
  go_wp2_with fail
  refine GROW.out.mono ?_
  rintro e w1 ⟨b, mh, ml, tv, rfl, hG⟩
  obtain ⟨T, qs, t1, r1, hTq, b1⟩ := gst_told hG HZL.out (fun z hz => by rw [(HPS.out z hz).2.1]; omega)
  have TL1 := Lib.hid t1
  have RD1 := Lib.hid r1
  have HTQ := Lib.hid hTq
  have B1 := Lib.hid b1
  have hfew := t1.few
  obtain ⟨N, hN⟩ : ∃ N, N = qs.length := ⟨_, rfl⟩
  obtain ⟨_, ta, tcap, tg, toff, rfl, _, _⟩ := r1.rd
  have hTl : T.length = N := by rw [← hTq, List.length_map, hN]
  rw [← hN] at RD1 ⊢
  have HN := Lib.hid hN
  have hN12 : N ≤ 12 := by omega
  clear hG t1 r1 hTq b1 GROW HPS HZL hfew hN hTl
  go_wp2_with fail
  refine (FW.out _ B1.out).mono ?_
  rintro e w2 ⟨v1, v2, ms, rfl, F1, hml⟩
  obtain ⟨b1a, b1c, rfl⟩ := F1.s1.slice
  obtain ⟨b2a, b2c, rfl⟩ := F1.s2.slice
  have HF2 := Lib.hid F1
  have TL2 := Lib.hid (TL1.out.on F1.b)
  have RD2 := Lib.hid (RD1.out.on F1.b)
  have B2 := Lib.hid (B1.out.trans (F1.b.mono B1.out.size))
  clear F1 TL1 RD1 B1 FW
  go_wp2_with fail
  refine (AW.out _).mono ?_
  rintro e w3 ⟨rfl, b3⟩
  have HF3 := Lib.hid (HF2.out.on b3)
  have TL3 := Lib.hid (TL2.out.on b3)
  have RD3 := Lib.hid (RD2.out.on b3)
  have B3 := Lib.hid (B2.out.trans (b3.mono B2.out.size))
  clear HF2 TL2 RD2 B2 b3 AW
  go_wp2_with fail
  go_loopw [30] (fun i' wr => ∃ (i : Nat), i' = .int .i64 i ∧ i ≤ N ∧ Below w3.heap.size w3 wr) (fun i' _ => N - (RowKit.intOf i').toNat)
  case atStart => exact ⟨0, rfl, by omega, Below.refl _ _⟩
  case round =>
    obtain ⟨W0, rfl⟩ : ∃ W0, W0 = wr := ⟨_, rfl⟩
    obtain ⟨i, rfl, hi, hb⟩ := hrel
    by_cases hlt : i < N
    · obtain ⟨q, hq⟩ : ∃ q, qs[i]? = some q := ⟨qs[i]'(by have := HN.out; omega), List.getElem?_eq_getElem (by have := HN.out; omega)⟩
      have R0 := (show TdR W0 _ qs from RD3.out.on hb)
      obtain ⟨g, off, cap', pa, pc, he, hqv, hgl, r0, r1⟩ := R0.at_ hq
      rw [← HN.out] at he
      cases he
      obtain ⟨hprd, hpl⟩ := R0.each q (List.mem_of_getElem? hq)
      rw [hqv] at hprd
      obtain ⟨K, hK⟩ : ∃ K, K = q.ps.length := ⟨_, rfl⟩
      have HPR := Lib.hid hprd
      rw [← hK] at r1 hpl
      have HK := Lib.hid hK
      have HB := Lib.hid hb
      have hil : (i : Int) < N := by omega
      clear hq hqv hprd hK hb R0
      go_wp2_with fail
      go_loopw [39] (fun j' wr => ∃ (j : Nat), j' = .int .i64 j ∧ j ≤ K ∧ Below W0.heap.size W0 wr) (fun j' _ => K - (RowKit.intOf j').toNat)
      case atStart => exact ⟨0, rfl, by omega, Below.refl _ _⟩
      case round =>
        obtain ⟨W2, rfl⟩ : ∃ W2, W2 = wr := ⟨_, rfl⟩
        obtain ⟨j, rfl, hj, hb2⟩ := hrel
        by_cases hjk : j < K
        · obtain ⟨p, hp⟩ : ∃ p, q.ps[j]? = some p := ⟨q.ps[j]'(by have := HK.out; omega), List.getElem?_eq_getElem (by have := HK.out; omega)⟩
          obtain ⟨g2, off2, rfl, hg2, p0, p1⟩ := (HPR.out.on hb2).pr_at hp
          have hji : (j : Int) < K := by omega
          obtain ⟨W3, hW3⟩ : ∃ W3, W3 = W2.alloc (.cells #[.string (bs p.n), .string (bs p.v)] 36) := ⟨_, rfl⟩
          have b3 : Below W2.heap.size W2 W3 := by rw [hW3]; exact (Below.refl _ _).alloc (Nat.le_refl _) _
          have HB3 := Lib.hid (hb2.trans (b3.mono hb2.size))
          have HW3 := Lib.hid hW3
          have hE : bs [] = (⟨#[]⟩ : ByteArray) := rfl
          clear hp hb2 b3 hW3
          by_cases hpe : p.v = []
          · rw [hpe] at p1 HW3
            rw [hE] at p1 HW3
            have HBF := Lib.hid (B3.out.trans ((HB.out.trans (HB3.out.mono HB.out.size)).mono B3.out.size))
            clear hpe
            go_wp2_with fail
            rw [← HW3.out]
            go_ret
            exact ⟨rfl, HBF.out⟩
          · have hTe : (⟨#[]⟩ : ByteArray).toList = [] := by rw [← hE]; exact hT []
            have hq2 : (p.v == []) = false := by rw [beq_eq_false_iff_ne]; exact hpe
            clear hpe
            go_wp2_with fail
            rw [← HW3.out]
            exact ⟨⟨j + 1, by simp, by omega, HB3.out⟩, by simp [RowKit.intOf]; omega⟩
        · have hjk2 : ¬ (j : Int) < K := by omega
          have BB := Lib.hid (HB.out.trans (hb2.mono HB.out.size))
          clear hb2
          go_wp2_with fail
          exact ⟨⟨i + 1, by simp, by omega, BB.out⟩, by simp [RowKit.intOf]; omega⟩
    · have hil : ¬ (i : Int) < N := by omega
      have SE := Lib.hid (select13_any (.slice b1a ms.length b1c) ms W0 (TL3.out.on hb) ((HF3.out.on hb).r1S) (by omega))
      have RS := Lib.hid (fun W (bb : Below W0.heap.size W0 W) => rsel13_any (.slice ta N tcap) (.slice b2a ms.length b2c) qs ms W (RD3.out.on (hb.trans (bb.mono hb.size))) ((HF3.out.on (hb.trans (bb.mono hb.size))).r2S) (fun p hp => ⟨(HF3.out.ps p hp).2.2.2.1, (HF3.out.ps p hp).2.2.2.2.2.2⟩) (by omega))
      rw [HTQ.out] at RS
      rw [← sel_same TL3.out.own] at RS
      obtain ⟨R, hR⟩ : ∃ R, R = selN T (ms.map (·.1)) := ⟨_, rfl⟩
      have hRl : R.length ≤ 12 := by
        have h1 := accZ_len ((ms.map (·.1)).map (fitN T)) (numsT T)
        have h2 := numsT_len T
        have h3 := TL3.out.few
        have h4 : R.length = (accZ (numsT T) ((ms.map (·.1)).map (fitN T))).length := by rw [hR]; rfl
        omega
      rw [← hR] at SE RS
      have HB := Lib.hid (B3.out.trans (hb.mono B3.out.size))
      clear hb hR
      go_wp2_with fail
      refine SE.out.mono ?_
      rintro e w4 ⟨v4, rfl, s4, b4⟩
      obtain ⟨a4, c4, rfl⟩ := s4.slice
      have S4 := Lib.hid s4
      have B4 := Lib.hid b4
      clear s4 b4 SE
      go_wp2_with fail
      refine (RS.out _ B4.out).mono ?_
      rintro e w5 ⟨v5, rfl, s5, b5⟩
      obtain ⟨a5, c5, rfl⟩ := s5.slice
      have SM := Lib.hid (same12_any (.slice a4 R.length c4) (.slice a5 R.length c5) R w5 (Ns.of_sl (S4.out.on b5) (by omega)) (Ns.of_sl s5 (by omega)))
      have B5 := Lib.hid (B4.out.trans (b5.mono B4.out.size))
      clear s5 b5 RS S4
      go_wp2_with fail
      refine SM.out.mono ?_
      rintro e w6 ⟨rfl, b6⟩
      have BF := Lib.hid (HB.out.trans ((B5.out.trans (b6.mono B5.out.size)).mono HB.out.size))
      clear b6 SM
      go_wp2
      go_ret
      exact ⟨rfl, BF.out⟩
end Go.Proofs.YtefhnjepocbodaaGreatDoor

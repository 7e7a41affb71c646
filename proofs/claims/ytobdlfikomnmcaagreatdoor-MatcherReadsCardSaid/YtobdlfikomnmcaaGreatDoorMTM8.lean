/- Layer 13: answers that the document fixes. -/
import Derived.Test.YtobdlfikomnmcaaGreatDoorMTM7
namespace Go.Proofs.YtobdlfikomnmcaaGreatDoor
open Go.RowKit Go.Lib
set_option linter.unusedVariables false

def txA : List UInt8 := [106, 111, 98, 61, 97, 112, 105, 44, 122, 111, 110, 101, 33, 61, 97, 44, 104, 111, 115, 116, 94, 119, 101, 98, 44, 120, 64, 49, 124, 50]
def txB : List UInt8 := [106, 111, 98, 61, 97, 112, 105, 44, 104, 111, 115, 116, 61, 119, 101, 98, 49, 44, 120, 61, 50]
def msA : List Mr := [⟨1, [106, 111, 98], [[97, 112, 105]]⟩, ⟨2, [122, 111, 110, 101], [[97]]⟩, ⟨3, [104, 111, 115, 116], [[119, 101, 98]]⟩, ⟨4, [120], [[49], [50]]⟩]
def prB : List Pr := [⟨[104, 111, 115, 116], [119, 101, 98, 49]⟩, ⟨[106, 111, 98], [97, 112, 105]⟩, ⟨[120], [50]⟩]
set_option maxRecDepth 100000 in
theorem parseA (W : World) : Calls Tryz.prog 5 #[.string (bs txA)] W fun e w' => ∃ v l, e = .returned (.tuple #[v, .int .i64 0]) ∧ l.map (·.1) = msA ∧ MsR w' v l ∧ Below W.heap.size W w' := by
  have hm : (parts 44 txA).map mrOf = msA := by
    have e : parts 44 txA = [[106, 111, 98, 61, 97, 112, 105], [122, 111, 110, 101, 33, 61, 97], [104, 111, 115, 116, 94, 119, 101, 98], [120, 64, 49, 124, 50]] := by decide
    rw [e]
    rfl
  refine (parse13_any txA W (by decide) (by decide) ?_).mono ?_
  · intro p hp
    have e : parts 44 txA = [[106, 111, 98, 61, 97, 112, 105], [122, 111, 110, 101, 33, 61, 97], [104, 111, 115, 116, 94, 119, 101, 98], [120, 64, 49, 124, 50]] := by decide
    rw [e] at hp
    simp only [List.mem_cons, List.not_mem_nil, or_false] at hp
    rcases hp with rfl | rfl | rfl | rfl <;> rfl
  · rintro e w' ⟨v, l, rfl, h1, h2, h3⟩
    rw [hm] at h1
    refine ⟨v, l, rfl, h1, h2.rd fun p hp => ?_, h3⟩
    have : p.1 ∈ msA := by rw [← h1]; exact List.mem_map_of_mem hp
    simp only [msA, List.mem_cons, List.not_mem_nil, or_false] at this
    rcases this with e | e | e | e <;> rw [e] <;> exact ⟨by simp, by simp⟩
theorem parseB (W : World) : Calls Tryz.prog 18 #[.string (bs txB)] W fun e w' => ∃ v, e = .returned (.tuple #[v, .int .i64 0]) ∧ Sl w' W.heap.size 2 v 3 (prc prB) ∧ Below W.heap.size W w' := by
  refine (parse_lb txB W (by decide)).mono ?_
  rintro e w' ⟨v, er, rfl, hb, hm⟩
  have hp : pairsL (parts 44 txB) = some [⟨[106, 111, 98], [97, 112, 105]⟩, ⟨[104, 111, 115, 116], [119, 101, 98, 49]⟩, ⟨[120], [50]⟩] := by decide
  have hs : sortP [⟨[106, 111, 98], [97, 112, 105]⟩, ⟨[104, 111, 115, 116], [119, 101, 98, 49]⟩, ⟨[120], [50]⟩] = prB := (sortP_of (List.Perm.swap _ _ _) (by unfold Rising; decide)).symm
  rw [hp] at hm
  simp only [hs] at hm
  rw [if_pos (by decide)] at hm
  obtain ⟨rfl, h2⟩ := hm
  exact ⟨v, rfl, h2, hb⟩

set_option maxHeartbeats 2000000 in
set_option maxRecDepth 100000 in
theorem awake13_any (w : World) : Calls Tryz.prog 8 #[] w fun e w' => e = .returned (.bool true) ∧ Below w.heap.size w w' := by
  have PA := Lib.hid parseA
  have PB := Lib.hid parseB
  obtain ⟨tA, hA⟩ : ∃ t, t = txA := ⟨_, rfl⟩
  obtain ⟨tB, hB⟩ : ∃ t, t = txB := ⟨_, rfl⟩
  have kA : ByteArray.mk #[106, 111, 98, 61, 97, 112, 105, 44, 122, 111, 110, 101, 33, 61, 97, 44, 104, 111, 115, 116, 94, 119, 101, 98, 44, 120, 64, 49, 124, 50] = bs tA := by rw [hA]; rfl
  have kB : ByteArray.mk #[106, 111, 98, 61, 97, 112, 105, 44, 104, 111, 115, 116, 61, 119, 101, 98, 49, 44, 120, 61, 50] = bs tB := by rw [hB]; rfl
  rw [← hA] at PA
  rw [← hB] at PB
  clear hA hB
  go_enter Tryz.func8, Tryz.ntmps8
  go_wp2_with fail
  refine (PA.out _).mono ?_
  rintro e w1 ⟨v, l, rfl, h1, hm, b1⟩
  have hl4 : l.length = 4 := by have := congrArg List.length h1; simpa [msA] using this
  obtain ⟨p0, p1, p2, p3, rfl⟩ : ∃ p0 p1 p2 p3, l = [p0, p1, p2, p3] := by
    match l, hl4 with
    | [a, b, c, d], _ => exact ⟨a, b, c, d, rfl⟩
  have hm0 : p0.1 = ⟨1, [106, 111, 98], [[97, 112, 105]]⟩ := by simp only [msA, List.map_cons, List.cons.injEq] at h1; exact h1.1
  have hm1 : p1.1 = ⟨2, [122, 111, 110, 101], [[97]]⟩ := by simp only [msA, List.map_cons, List.cons.injEq] at h1; exact h1.2.1
  have HM := Lib.hid hm
  obtain ⟨_, a, cap, g, off, rfl, hg, hc⟩ := hm.r
  obtain ⟨rfl, hgl⟩ := hg (by simp)
  have c0 : w1.cell? ⟨g, off, none⟩ = some (Value.int .i64 p0.1.k) := hc 0 (by simp)
  have c1 : w1.cell? ⟨g, off + 1, none⟩ = some (Value.string (bs p0.1.n)) := hc 1 (by simp)
  have c2 : w1.cell? ⟨g, off + 2, none⟩ = some p0.2 := hc 2 (by simp)
  have c3 : w1.cell? ⟨g, off + 3, none⟩ = some (Value.int .i64 p1.1.k) := hc 3 (by simp)
  have c4 : w1.cell? ⟨g, off + 4, none⟩ = some (Value.string (bs p1.1.n)) := hc 4 (by simp)
  have c5 : w1.cell? ⟨g, off + 5, none⟩ = some p1.2 := hc 5 (by simp)
  obtain ⟨r0, -, -⟩ := hm.vs p0 (by simp)
  obtain ⟨r1, -, -⟩ := hm.vs p1 (by simp)
  have R0 := Lib.hid r0; have R1 := Lib.hid r1
  obtain ⟨_, a0, cap0, g0, off0, hv0, -, -⟩ := r0
  obtain ⟨_, a1, cap1, g1, off1, hv1, -, -⟩ := r1
  have F0 := Lib.hid (fun W b => show Calls Tryz.prog 20 #[mrV p0.1 p0.2, .string (bs [113])] W (fun e w' => e = .returned (.bool false) ∧ Below W.heap.size W w') from by
    have := fits13_any p0.1 p0.2 [113] W (R0.out.on b) (by rw [hm0]; simp) (by rw [hm0]; simp)
    rw [show fitB p0.1 [113] = false by rw [hm0]; decide] at this
    exact this)
  have F1 := Lib.hid (fun W b => show Calls Tryz.prog 20 #[mrV p1.1 p1.2, .string (bs [])] W (fun e w' => e = .returned (.bool true) ∧ Below W.heap.size W w') from by
    have := fits13_any p1.1 p1.2 [] W (R1.out.on b) (by rw [hm1]; simp) (by rw [hm1]; simp)
    rw [show fitB p1.1 [] = true by rw [hm1]; decide] at this
    exact this)
  have MT := Lib.hid (fun v2 W (b : Below w1.heap.size w1 W) (h : Rd W 2 v2 3 (prc prB)) => show Calls Tryz.prog 19 #[v2, .slice (some ⟨g, off, none⟩) 4 cap] W (fun e w' => e = .returned (.bool true) ∧ Below W.heap.size W w') from by
    have := match13_any v2 _ prB [p0, p1, p2, p3] W h (by decide) (HM.out.on b) (by simp)
    rw [h1, show matchB prB msA = true by decide] at this
    exact this)
  unfold mrV at F0 F1
  rw [hv0] at F0 c2
  rw [hv1] at F1 c5
  rw [hm0] at c0 c1 c2 F0
  rw [hm1] at c3 c4 c5 F1
  simp only at c0 c1 c2 c3 c4 c5 F0 F1
  have B1 := Lib.hid b1
  clear h1 hm hg hc hm0 hm1 hv0 hv1 R0 R1 HM PA hl4 b1
  go_wp2_with fail
  refine (PB.out _).mono ?_
  rintro e w2 ⟨v2, rfl, s2, b2⟩
  have M2 := Lib.hid (MT.out v2 w2 b2 (Rd.of_sl s2))
  obtain ⟨a2, c2x, rfl⟩ := s2.slice
  have B2 := Lib.hid (B1.out.trans (b2.mono B1.out.size))
  have BB2 := Lib.hid b2
  clear PB MT s2 B1
  go_wp2_with fail
  refine M2.out.mono ?_
  rintro e w3 ⟨rfl, b3⟩
  have b13 := BB2.out.trans (b3.mono BB2.out.size)
  have B3 := Lib.hid (B2.out.trans (b3.mono B2.out.size))
  have G0 := Lib.hid (F0.out w3 b13)
  have d0 := (b13.cell (p := ⟨g, off, none⟩) hgl).trans c0
  have d1 := (b13.cell (p := ⟨g, off + 1, none⟩) hgl).trans c1
  have d2 := (b13.cell (p := ⟨g, off + 2, none⟩) hgl).trans c2
  have B13 := Lib.hid b13
  clear b3 b2 M2 B2 BB2 F0 b13 c0 c1 c2
  go_wp2_with fail
  refine G0.out.mono ?_
  rintro e w4 ⟨rfl, b4⟩
  have b14 := B13.out.trans (b4.mono B13.out.size)
  have B4 := Lib.hid (B3.out.trans (b4.mono B3.out.size))
  have G1 := Lib.hid (F1.out w4 b14)
  have d3 := (b14.cell (p := ⟨g, off + 3, none⟩) hgl).trans c3
  have d4 := (b14.cell (p := ⟨g, off + 4, none⟩) hgl).trans c4
  have d5 := (b14.cell (p := ⟨g, off + 5, none⟩) hgl).trans c5
  clear b14 b4 G0 d0 d1 d2 c3 c4 c5 F1 B3 B13
  go_wp2_with fail
  refine G1.out.mono ?_
  rintro e w5 ⟨rfl, b5⟩
  go_wp2_with fail
  go_ret
  exact ⟨rfl, B4.out.trans (b5.mono B4.out.size)⟩
end Go.Proofs.YtobdlfikomnmcaaGreatDoor

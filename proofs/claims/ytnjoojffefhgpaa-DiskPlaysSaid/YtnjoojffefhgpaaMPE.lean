/- The document's Range. -/
import Derived.Test.YtnjoojffefhgpaaMPD
import Derived.Test.YtnjoojffefhgpaaMPA
namespace Go.Proofs.Ytnjoojffefhgpaa
open Go.Conc Go.RowKit
set_option linter.unusedVariables false

/-- What the document's Range says. -/
def atR (k : ByteArray) (xs : List Rj) : Option Rj := (idxR k xs).bind fun i => xs[i]?
def rangeX (k : ByteArray) (a n : Int) (xs : List Rj) : ByteArray × Int := match atR k xs with
  | none => (ByteArray.empty, 5)
  | some x => if a < 0 ∨ (x.data.size : Int) < a ∨ n < 0 then (ByteArray.empty, 1) else (partB x.data a n, 0)
theorem range_rel {os : List Ob} {xs : List Rj} (h : RelB os xs) (k : ByteArray) (a n : Int) : rangeX k a n xs = rangeR k a n os := by
  unfold rangeX rangeR atR
  rcases look_rel h k with ⟨h1, h2⟩ | ⟨x, i, h1, h2, h3⟩
  · rw [h1, h2]; rfl
  · rw [h1, h2]
    simp only [Option.bind_some, h3]
    rfl
theorem idxR_lt (k : ByteArray) : ∀ (xs : List Rj) (i : Nat), idxR k xs = some i → i < xs.length
  | [], i, h => by simp [idxR] at h
  | x :: xs, i, h => by
    unfold idxR at h
    by_cases hx : x.name = k
    · simp [hx] at h; rw [← h]; simp
    · simp [hx] at h
      obtain ⟨j, hj, rfl⟩ := h
      have := idxR_lt k xs j hj
      simp; omega

set_option maxHeartbeats 2000000 in
set_option maxRecDepth 100000 in
theorem rrange_any (base : Nat) (v u : Value) (xs : List Rj) (k : ByteArray) (a n : Int) (w : World) (hs : Sl w base 3 v xs.length (rjc xs)) (hlen : xs.length ≤ 1000) (hu : ∃ a n c, u = .slice a n c) :
    Calls Try.prog 41 #[rbv v u, .string k, .int .i64 a, .int .i64 n] w fun e w' => e = .returned (.tuple #[.string (rangeX k a n xs).1, .int .i64 (rangeX k a n xs).2]) ∧ Below w.heap.size w w' := by
  obtain ⟨ua, un, uc, rfl⟩ := hu
  obtain ⟨va, vc, rfl⟩ := hs.slice
  obtain ⟨m, hm⟩ : ∃ m, m = xs.length := ⟨_, rfl⟩
  have FD := Lib.hid (rfind_any base (.slice va m vc) (.slice ua un uc) xs k (w.alloc (.cells #[.slice va m vc, .slice ua un uc] 52)) (by rw [hm]; exact hs.alloc _) hlen ⟨_, _, _, rfl⟩)
  have HS := Lib.hid hs
  rw [← hm]
  have KC := Lib.hid (fun w1 (b1 : Below (w.alloc (.cells #[.slice va m vc, .slice ua un uc] 52)).heap.size (w.alloc (.cells #[.slice va m vc, .slice ua un uc] 52)) w1) => show w1.cell? ⟨w.heap.size, 0, none⟩ = some (.slice va m vc) from (b1.cell (p := ⟨w.heap.size, 0, none⟩) (by simp)).trans ((cell_of_row _ _ 0 _ _ _ (heap_alloc_new w _)).trans rfl))
  have HM := Lib.hid hm
  clear hs hm
  unfold rbv at FD ⊢
  cases hi : idxR k xs with
  | none =>
    have hX : rangeX k a n xs = (ByteArray.empty, 5) := by unfold rangeX atR; rw [hi]; rfl
    rw [hX]
    rw [show findR k xs = -1 by unfold findR; rw [hi]] at FD
    clear hX hi
    go_enter Try.func41, Try.ntmps41
    go_wp2_with fail
    refine FD.out.mono ?_
    rintro e w1 ⟨rfl, b1⟩
    have k0 := KC.out w1 b1
    have bb := Lib.hid (((Below.refl w.heap.size w).alloc (Nat.le_refl _) _).trans (b1.mono (by simp)))
    clear b1
    go_wp2
    go_ret2
    exact ⟨rfl, bb.out⟩
  | some i =>
    have hil := idxR_lt k xs i hi
    obtain ⟨x, hx⟩ : ∃ x, xs[i]? = some x := ⟨xs[i], List.getElem?_eq_getElem hil⟩
    have hX : rangeX k a n xs = if a < 0 ∨ (x.data.size : Int) < a ∨ n < 0 then (ByteArray.empty, 1) else (partB x.data a n, 0) := by
      unfold rangeX atR; rw [hi]; simp only [Option.bind_some, hx]
    rw [hX]
    rw [show findR k xs = (i : Int) by unfold findR; rw [hi]] at FD
    obtain ⟨s, hs⟩ : ∃ s, s = x.data := ⟨_, rfl⟩
    rw [← hs]
    have hSL := HS.out
    obtain ⟨gl, ol, cl, ea, _, _, _⟩ := hSL.somewhere (by omega)
    cases ea
    have QC := Lib.hid (fun w1 (b : Below w.heap.size w w1) => show w1.cell? ⟨gl, ol + i * 3 + 1, none⟩ = some (.string s) by
      have h := (hSL.on b).cells (i * 3 + 1) _ (rjc_at xs i x hx).2.1
      rw [Addr.add_lit, ← Nat.add_assoc, ← hs] at h
      exact h)
    have him : (i : Int) < m := by rw [HM.out]; omega
    have hi0 : ¬ (i : Int) < 0 := by omega
    clear hs hX hx hSL hi hil
    by_cases hb : a < 0 ∨ (s.size : Int) < a ∨ n < 0
    · rw [if_pos hb]
      by_cases h1 : a < 0
      · clear hb
        go_enter Try.func41, Try.ntmps41
        go_wp2_with fail
        refine FD.out.mono ?_
        rintro e w1 ⟨rfl, b1⟩
        have k0 := KC.out w1 b1
        have bb := Lib.hid (((Below.refl w.heap.size w).alloc (Nat.le_refl _) _).trans (b1.mono (by simp)))
        have q1 := QC.out w1 bb.out
        clear b1
        go_wp2
        go_ret2
        exact ⟨rfl, bb.out⟩
      · by_cases h2 : (s.size : Int) < a
        · clear hb
          go_enter Try.func41, Try.ntmps41
          go_wp2_with fail
          refine FD.out.mono ?_
          rintro e w1 ⟨rfl, b1⟩
          have k0 := KC.out w1 b1
          have bb := Lib.hid (((Below.refl w.heap.size w).alloc (Nat.le_refl _) _).trans (b1.mono (by simp)))
          have q1 := QC.out w1 bb.out
          clear b1
          go_wp2
          go_ret2
          exact ⟨rfl, bb.out⟩
        · have h3 : n < 0 := by omega
          clear hb
          go_enter Try.func41, Try.ntmps41
          go_wp2_with fail
          refine FD.out.mono ?_
          rintro e w1 ⟨rfl, b1⟩
          have k0 := KC.out w1 b1
          have bb := Lib.hid (((Below.refl w.heap.size w).alloc (Nat.le_refl _) _).trans (b1.mono (by simp)))
          have q1 := QC.out w1 bb.out
          clear b1
          go_wp2
          go_ret2
          exact ⟨rfl, bb.out⟩
    · rw [if_neg hb]
      obtain ⟨a', rfl⟩ : ∃ a' : Nat, a = a' := ⟨a.toNat, by omega⟩
      obtain ⟨n', rfl⟩ : ∃ n' : Nat, n = n' := ⟨n.toNat, by omega⟩
      have h2' : a' ≤ s.size := by omega
      have g1 : ¬ (s.size : Int) < a' := by omega
      clear hb
      by_cases h4 : n' < s.size - a'
      · have hp := Lib.hid (part_eq s a' n' n' h2' (by omega))
        have g2 : n' ≤ s.size - a' := by omega
        go_enter Try.func41, Try.ntmps41
        go_wp2_with fail
        refine FD.out.mono ?_
        rintro e w1 ⟨rfl, b1⟩
        have k0 := KC.out w1 b1
        have bb := Lib.hid (((Below.refl w.heap.size w).alloc (Nat.le_refl _) _).trans (b1.mono (by simp)))
        have q1 := QC.out w1 bb.out
        clear b1
        go_wp2
        all_goals first
          | (exfalso; omega)
          | (go_ret2; exact ⟨by rw [← hp.out]; rfl, bb.out⟩)
      · have hp := part_eq s a' n' (s.size - a') h2' (by omega)
        rw [show (s.extract a' s.size).extract 0 (s.size - a') = s.extract a' s.size by
          have h := ByteArray.extract_zero_size (b := s.extract a' s.size)
          rw [ByteArray.size_extract, Nat.min_self] at h
          exact h] at hp
        have HP := Lib.hid hp
        clear hp
        go_enter Try.func41, Try.ntmps41
        go_wp2_with fail
        refine FD.out.mono ?_
        rintro e w1 ⟨rfl, b1⟩
        have k0 := KC.out w1 b1
        have bb := Lib.hid (((Below.refl w.heap.size w).alloc (Nat.le_refl _) _).trans (b1.mono (by simp)))
        have q1 := QC.out w1 bb.out
        clear b1
        go_wp2
        all_goals first
          | (exfalso; omega)
          | (go_ret2; exact ⟨by rw [← HP.out]; rfl, bb.out⟩)
end Go.Proofs.Ytnjoojffefhgpaa

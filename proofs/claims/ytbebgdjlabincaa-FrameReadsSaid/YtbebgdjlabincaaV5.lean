/- The answers of layer 2 that the document fixes, walked. -/
import Derived.Test.YtbebgdjlabincaaV4
import Derived.Test.YtbebgdjlabincaaW7
namespace Go.Proofs.Ytbebgdjlabincaa
open Go.RowKit Go.Lib

theorem append_new (k : UInt8) (d xs : List UInt8) (m : Nat) (he : Fr.rec k d = xs) (hm : xs.length = m) (h0 : 0 < m) (w : World) (hd : d.length ≤ 140737488350000) :
    Calls Try.prog 36 #[.slice none 0 0, .agg #[.int .u8 k.toNat, .string (bs d)]] w (MadeAt w xs m) := by
  subst he
  subst hm
  refine (append_any w.heap.size none 0 0 [] k d w (Sl.nil _ _ _) (by omega)).mono fun e w' ⟨a, cap, he, hs, hb⟩ => madeAt_of h0 ?_
  rw [List.nil_append] at he hs
  exact ⟨a, cap, he, hs, hb⟩

theorem sl_cell {w : World} {base g off n cap : Nat} {l : List UInt8} (h : Sl w base 1 (.slice (some ⟨g, off, none⟩) n cap) n (cb l)) (j : Nat) (c : UInt8) (hj : l[j]? = some c) : w.cell? ⟨g, off + j, none⟩ = some (.int .u8 c.toNat) := by
  rcases h.2 with ⟨h0, _⟩ | ⟨g', off', cap', he, _, _, _, _, _, hcell⟩
  · cases h0
  · cases he
    have hlt : j < l.length := (List.getElem?_eq_some_iff.1 hj).1
    have hn : l.length = n := by have := h.1; rw [cb_length] at this; omega
    rw [hcell j (by omega)]
    simp [cb, hj]

set_option maxRecDepth 100000 in
theorem fawake_any (w : World) : Calls Try.prog 35 #[] w fun e w' => e = .returned (.bool true) ∧ Below w.heap.size w w' := by
  have hT := bs_toList
  obtain ⟨R, hR⟩ : ∃ R, R = Fr.rec 1 [97] := ⟨_, rfl⟩
  have r7 : R.length = 7 := by rw [hR]; decide +kernel
  have r0 : R[0]? = some 1 := by rw [hR]; decide +kernel
  have r6 : R[6]? = some 97 := by rw [hR]; decide +kernel
  have hn : nextV (Fr.next R) = .tuple #[.agg #[.int .u8 1, .string (bs [97])], .string (bs []), .int .i64 0] := by
    have := Fr.next_rec 1 [97] [] (by decide)
    rw [List.append_nil, ← hR] at this
    rw [this]; rfl
  have S9 : ∀ W : World, Calls Try.prog 38 #[.string ⟨#[49, 50, 51, 52, 53, 54, 55, 56, 57]⟩] W fun e w' => e = .returned (.int .u32 3808858755) ∧ W = w' := fun W => by
    have := fsum_bs [49, 50, 51, 52, 53, 54, 55, 56, 57] W (by decide)
    rw [show Crc.sum [49, 50, 51, 52, 53, 54, 55, 56, 57] = 3808858755 by decide +kernel] at this
    exact this
  have HS := Lib.hid S9; have HN := Lib.hid hn; have HR := Lib.hid hR; have R7 := Lib.hid r7; have R0 := Lib.hid r0; have R6 := Lib.hid r6
  clear S9 hn hR r7 r0 r6
  go_enter Try.func35, Try.ntmps35
  go_wp2_with (first
    | (go_at_call 36; refine (append_new 1 [97] R 7 HR.out.symm R7.out (by decide) _ (by decide)).mono ?_; rintro e w1 ⟨g, o, c, rfl, hc7, hcm, s1, b1⟩; have c1 := text_conv s1)
    | (go_at_call 31; refine (next_any R _ (by rw [R7.out]; decide)).mono ?_; rintro e w2 ⟨rfl, b2⟩; rw [HN.out]; have s2 := s1.on b2; have l2 := (s2.lt g rfl).2; have p0 := sl_cell s2 0 1 R0.out; have p6 := sl_cell s2 6 97 R6.out; rw [Nat.add_zero] at p0)
    | (go_at_call 38; refine (HS.out _).mono ?_; rintro e w3 ⟨rfl, rfl⟩))
  go_ret
  have hb := below_step b1 b2
  exact ⟨rfl, hb.alloc hb.size _⟩

/-- '[]byte(s)', s not empty. -/
theorem bytes_at (w : World) (t : List UInt8) (ht : t.length ≤ maxLen) (h0 : 0 < t.length) :
    ∃ g off cap W, (convert 9 24 (.string (bs t))).run Try.prog w = .ok (.slice (some ⟨g, off, none⟩) t.length cap) W ∧ t.length ≤ cap ∧ cap ≤ maxLen ∧ Sl W w.heap.size 1 (.slice (some ⟨g, off, none⟩) t.length cap) t.length (cb t) ∧ Below w.heap.size w W := by
  obtain ⟨b, W, hr, hs, hb⟩ := bytes_conv w t ht
  rcases hs.2 with ⟨h1, h2⟩ | ⟨g, off, cap, he, _, _, hn, hc, _, _⟩
  · omega
  · subst he
    exact ⟨g, off, cap, W, hr, hn, hc, hs, hb⟩

theorem cell_setCell_same (w : World) (g o : Nat) (v : Value) (h : (w.cell? ⟨g, o, none⟩).isSome = true) : (w.setCell ⟨g, o, none⟩ v).cell? ⟨g, o, none⟩ = some v := by
  have hx : ∀ j, j < [v].length → (w.cell? ⟨g, o + j, none⟩).isSome = true := by
    intro j hj
    have : j = 0 := by simpa using hj
    subst this
    exact h
  exact World.cell?_setCells_in g [v] o w hx 0 (by simp)
theorem sl_set {w : World} {base g off n cap c : Nat} {l : List UInt8} (h : Sl w base 1 (.slice (some ⟨g, off, none⟩) n cap) n (cb l)) (v : UInt8) (hc : c < n) :
    Sl (w.setCell ⟨g, off + c, none⟩ (.int .u8 v.toNat)) base 1 (.slice (some ⟨g, off, none⟩) n cap) n (cb (l.set c v)) := by
  have hl : l.length = n := by have := h.1; rw [cb_length] at this; omega
  rcases h.2 with ⟨h0, _⟩ | ⟨g', off', cap', he, hbg, hg, hnc, hcm, hfree, hcell⟩
  · cases h0
  · cases he
    refine ⟨by rw [cb_length, List.length_set]; omega, .inr ⟨g, off, cap, rfl, hbg, by simpa [World.setCell] using hg, hnc, hcm, fun j hj => ⟨?_, ?_⟩, fun j hj => ?_⟩⟩
    · by_cases hj' : j = c
      · subst hj'
        rw [cell_setCell_same _ _ _ _ (hfree j hj).1]; rfl
      · have := World.cell?_setCells_out g [.int .u8 v.toNat] (off + c) w ⟨g, off + j, none⟩ (fun _ _ => by simp only [List.length_singleton]; omega)
        rw [show w.setCell ⟨g, off + c, none⟩ (.int .u8 v.toNat) = w.setCells g (off + c) [.int .u8 v.toNat] from rfl, this]
        exact (hfree j hj).1
    · rw [show w.setCell ⟨g, off + c, none⟩ (.int .u8 v.toNat) = w.setCells g (off + c) [.int .u8 v.toNat] from rfl, World.frozen?_setCells]
      exact (hfree j hj).2
    · by_cases hj' : j = c
      · subst hj'
        rw [cell_setCell_same _ _ _ _ (hfree j (by omega)).1]
        simp [cb, hl, hc]
      · have := World.cell?_setCells_out g [.int .u8 v.toNat] (off + c) w ⟨g, off + j, none⟩ (fun _ _ => by simp only [List.length_singleton]; omega)
        rw [show w.setCell ⟨g, off + c, none⟩ (.int .u8 v.toNat) = w.setCells g (off + c) [.int .u8 v.toNat] from rfl, this, hcell j hj]
        simp [cb, Ne.symm hj']
end Go.Proofs.Ytbebgdjlabincaa

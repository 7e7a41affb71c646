/- Layer 9: Put behind bytes. -/
import Derived.Test.YtoihkeilofpcjaaDoorMMT5
import Derived.Test.YtoihkeilofpcjaaDoorMMN
namespace Go.Proofs.YtoihkeilofpcjaaDoor
open Go.RowKit Go.Lib
set_option linter.unusedVariables false

set_option maxHeartbeats 2000000 in
set_option maxRecDepth 100000 in
theorem put2_any (x : List UInt8) (vb : Value) (m : Mt.Me) (vf vs : Value) (w : World) (hb : Rd w 1 vb x.length (cb x)) (hx : x.length ≤ 1000) (h : MeR w m vf vs) (hc : Mt.chk m = true) (hsum : ∀ f ∈ m.files, f.sum < 4294967296) :
    Calls Tryd.prog 12 #[vb, meV m vf vs] w fun e w' => ∃ a c, e = .returned (.slice a (x ++ Mt.fld m).length c) ∧ Sl w' w.heap.size 1 (.slice a (x ++ Mt.fld m).length c) (x ++ Mt.fld m).length (cb (x ++ Mt.fld m)) ∧ Below w.heap.size w w' := by
  have F := Lib.hid (fun W hW => fields_any m vf vs W hW hc hsum)
  have H := Lib.hid h
  have HB := Lib.hid hb
  obtain ⟨-, af, kf, gf, o5f, rfl, -⟩ := h.1
  obtain ⟨-, a5, k5, g5, o5, rfl, -⟩ := h.2.1
  obtain ⟨-, ab, kb, gb, ob, rfl, -⟩ := hb
  have hfl := Mt.fld_len m hc
  obtain ⟨d, hd⟩ : ∃ d, d = Mt.fld m := ⟨_, rfl⟩
  rw [← hd] at F hfl ⊢
  obtain ⟨y, hy⟩ : ∃ y, y = x ++ d := ⟨_, rfl⟩
  rw [← hy]
  have HY := Lib.hid hy
  clear hy
  clear h hc hsum hd
  unfold meV at F ⊢
  go_enter Tryd.func12, Tryd.ntmps12
  go_wp2_with fail
  refine (F.out _ (H.out.on ((Below.refl _ _).alloc (Nat.le_refl _) _))).mono ?_
  rintro e w1 ⟨v1, rfl, s1, b1⟩
  obtain ⟨a1, c1, rfl⟩ := s1.slice
  have C := Lib.hid (fun W (h : Rds W (.slice (some ⟨w1.heap.size, 0, none⟩) 2 2) [cb x, cb d]) => concat_any (.slice (some ⟨w1.heap.size, 0, none⟩) 2 2) [cb x, cb d] W h (by
      intro l hl
      simp only [List.mem_cons, List.not_mem_nil, or_false] at hl
      rcases hl with rfl | rfl
      · exact cb_one x
      · exact cb_one d) (by simp) (by simp [cb_length]; omega))
  have hf : ([cb x, cb d] : List (List Value)).flatten = cb y := by rw [HY.out]; simp [cb]
  rw [hf, cb_length] at C
  have B1 := Lib.hid ((((Below.refl w.heap.size w).alloc (Nat.le_refl _) _).trans (b1.mono (by simp))))
  have hR := Lib.hid (show Rds (w1.alloc (.cells #[.slice ab x.length kb, .slice a1 d.length c1] 38)) (.slice (some ⟨w1.heap.size, 0, none⟩) 2 2) [cb x, cb d] from by
    have hsl := Sl.lit w1 0 1 2 #[.slice ab x.length kb, .slice a1 d.length c1] 38 (Nat.zero_le _) (by decide) rfl
    have hx := hsl.cells
    refine ⟨_, 2, w1.heap.size, 0, rfl, fun _ => ⟨rfl, by simp⟩, fun j l hl => ?_⟩
    match j, hl with
    | 0, hl =>
      cases hl
      refine ⟨_, hx 0 _ rfl, ?_⟩
      rw [cb_length]
      exact (HB.out.on B1.out).on ((Below.refl _ _).alloc (Nat.le_refl _) _)
    | 1, hl =>
      cases hl
      refine ⟨_, hx 1 _ rfl, ?_⟩
      rw [cb_length]
      exact Rd.of_sl (s1.alloc _))
  have hz1 := B1.out.size
  have B2 := Lib.hid (B1.out.alloc hz1 (.cells #[.slice ab x.length kb, .slice a1 d.length c1] 38))
  clear s1 b1 hf HB
  go_wp2_with fail
  refine (C.out _ hR.out).mono ?_
  rintro e w2 ⟨a2, c2, rfl, s2, b2⟩
  go_wp2
  go_ret
  exact ⟨_, _, rfl, s2.mono (by simp; omega), B2.out.trans (b2.mono (by simp; omega))⟩
end Go.Proofs.YtoihkeilofpcjaaDoor

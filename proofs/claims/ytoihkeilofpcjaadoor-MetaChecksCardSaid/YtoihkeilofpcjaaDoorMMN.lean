/- Layer 9: Take of a meta that is whole; Put. -/
import Derived.Test.YtoihkeilofpcjaaDoorMMD
import Derived.Test.YtoihkeilofpcjaaDoorMMC
import Derived.Test.YtoihkeilofpcjaaDoorMKB
import Derived.RegionTactic
namespace Go.Proofs.YtoihkeilofpcjaaDoor
open Go.RowKit Go.Lib

/-- The answer of Take: a meta, what is left. -/
def TakO (w : World) (m : Mt.Me) (l : List UInt8) (e : Ending) (w' : World) : Prop :=
  ∃ vf vs, e = .returned (.tuple #[meV m vf vs, .string (bs l), .int .i64 0]) ∧ Sl w' w.heap.size 3 vf m.files.length (flc m.files) ∧ Sl w' w.heap.size 1 vs m.src.length (sc m.src) ∧ Below w.heap.size w w'

set_option maxHeartbeats 2000000 in
set_option maxRecDepth 100000 in
theorem put_any (m : Mt.Me) (vf vs : Value) (w : World) (h : MeR w m vf vs) (hc : Mt.chk m = true) (hsum : ∀ f ∈ m.files, f.sum < 4294967296) :
    Calls Tryd.prog 12 #[.slice none 0 0, meV m vf vs] w fun e w' => ∃ a c, e = .returned (.slice a (Mt.fld m).length c) ∧ Sl w' w.heap.size 1 (.slice a (Mt.fld m).length c) (Mt.fld m).length (cb (Mt.fld m)) ∧ Below w.heap.size w w' := by
  have F := Lib.hid (fun W hW => fields_any m vf vs W hW hc hsum)
  have H := Lib.hid h
  obtain ⟨-, af, kf, gf, o5f, rfl, -⟩ := h.1
  obtain ⟨-, a5, k5, g5, o5, rfl, -⟩ := h.2.1
  have hfl := Mt.fld_len m hc
  obtain ⟨d, hd⟩ : ∃ d, d = Mt.fld m := ⟨_, rfl⟩
  rw [← hd] at F hfl ⊢
  clear h hc hsum hd
  unfold meV at F ⊢
  go_enter Tryd.func12, Tryd.ntmps12
  go_wp2_with fail
  refine (F.out _ (H.out.on ((Below.refl _ _).alloc (Nat.le_refl _) _))).mono ?_
  rintro e w1 ⟨v1, rfl, s1, b1⟩
  obtain ⟨a1, c1, rfl⟩ := s1.slice
  have C := Lib.hid (fun W (h : Rds W (.slice (some ⟨w1.heap.size, 0, none⟩) 2 2) [[], cb d]) => concat_any (.slice (some ⟨w1.heap.size, 0, none⟩) 2 2) [[], cb d] W h (by
      intro l hl
      simp only [List.mem_cons, List.not_mem_nil, or_false] at hl
      rcases hl with rfl | rfl
      · intro u hu; simp at hu
      · exact cb_one d) (by simp) (by simp [cb_length]; omega))
  have hf : ([[], cb d] : List (List Value)).flatten = cb d := by simp
  rw [hf, cb_length] at C
  have hR := Lib.hid (show Rds (w1.alloc (.cells #[.slice none 0 0, .slice a1 d.length c1] 38)) (.slice (some ⟨w1.heap.size, 0, none⟩) 2 2) [[], cb d] from by
    have hsl := Sl.lit w1 0 1 2 #[.slice none 0 0, .slice a1 d.length c1] 38 (Nat.zero_le _) (by decide) rfl
    have hx := hsl.cells
    refine ⟨_, 2, w1.heap.size, 0, rfl, fun _ => ⟨rfl, by simp⟩, fun j l hl => ?_⟩
    match j, hl with
    | 0, hl =>
      cases hl
      refine ⟨_, hx 0 _ rfl, Rd.of_sl (Sl.nil _ 0 _)⟩
    | 1, hl =>
      cases hl
      refine ⟨_, hx 1 _ rfl, ?_⟩
      rw [cb_length]
      exact Rd.of_sl (s1.alloc _))
  have B1 := Lib.hid ((((Below.refl w.heap.size w).alloc (Nat.le_refl _) _).trans (b1.mono (by simp))))
  have hz1 := B1.out.size
  have B2 := Lib.hid (B1.out.alloc hz1 (.cells #[.slice none 0 0, .slice a1 d.length c1] 38))
  clear s1 b1 hf
  go_wp2_with fail
  refine (C.out _ hR.out).mono ?_
  rintro e w2 ⟨a2, c2, rfl, s2, b2⟩
  go_wp2
  go_ret
  exact ⟨_, _, rfl, s2.mono (by simp; omega), B2.out.trans (b2.mono (by simp; omega))⟩
end Go.Proofs.YtoihkeilofpcjaaDoor

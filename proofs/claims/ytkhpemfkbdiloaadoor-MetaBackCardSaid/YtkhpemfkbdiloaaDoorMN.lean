/- Layer 9: Take of a meta that is whole; Put. -/
import Derived.Test.YtkhpemfkbdiloaaDoorMD
import Derived.Test.YtkhpemfkbdiloaaDoorMC
import Derived.Test.YtkhpemfkbdiloaaDoorKB
import Derived.RegionTactic
namespace Go.Proofs.YtkhpemfkbdiloaaDoor
open Go.RowKit Go.Lib

/-- The answer of Take: a meta, what is left. -/
def TakO (w : World) (m : Mt.Me) (l : List UInt8) (e : Ending) (w' : World) : Prop :=
  ∃ vf vs, e = .returned (.tuple #[meV m vf vs, .string (bs l), .int .i64 0]) ∧ Sl w' w.heap.size 3 vf m.files.length (flc m.files) ∧ Sl w' w.heap.size 1 vs m.src.length (sc m.src) ∧ Below w.heap.size w w'

set_option maxHeartbeats 2000000 in
set_option maxRecDepth 100000 in
theorem take9_ok (s : List UInt8) (w : World) (hs : s.length ≤ 140737488350000) (hP : PartsAt w) (m : Mt.Me) (l1 : List UInt8) (hm : Mt.meC (s, 0) = (m, (l1, 0))) :
    Calls Tryd.prog 8 #[.string (bs s)] w (TakO w m l1) := by
  have M := Lib.hid (fun b W h hP hb => meta_any b (s, 0) W h (by simp only; omega) hP hb m (l1, 0) hm)
  have HP := Lib.hid hP
  have hPw := hP.1
  clear hm hP hs
  go_enter Tryd.func8, Tryd.ntmps8
  go_wp2_with fail
  obtain ⟨X, hX⟩ : ∃ X : Obj, X = .cells #[.string ⟨#[]⟩, .int .i64 0, .int .i64 0, .int .i64 0, .int .i64 0, .int .i64 0, .slice none 0 0, .slice none 0 0] 25 := ⟨_, rfl⟩
  have hz : (w.alloc X).heap.size = w.heap.size + 1 := by simp
  have TK := Lib.hid (tk_new (w.alloc X) s 0 53 (w.heap.size + 1) hz.symm)
  have B1 : Below w.heap.size w ((w.alloc X).alloc (.cells #[.string (bs s), .int .i64 0] 53)) := ((Below.refl _ _).alloc (Nat.le_refl _) _).alloc (by rw [hz]; omega) _
  have hr1 := (Below.heap_alloc (w.alloc X) (.cells #[.string (bs s), .int .i64 0] 53) w.heap.size (by rw [hz]; omega)).trans (heap_alloc_new w X)
  rw [hX] at TK B1 hr1
  clear hX hz X
  refine (M.out (w.heap.size + 1) _ TK.out (HP.out.below B1) (by omega)).mono ?_
  rintro e w2 ⟨vf, vs, rfl, t2, sf, ss, u2⟩
  obtain ⟨af, kf, rfl⟩ := sf.slice
  obtain ⟨av, kv, rfl⟩ := ss.slice
  have z2 := u2.size
  simp at z2
  have hr2 := (u2.block w.heap.size (by simp; omega) (by omega)).trans hr1
  have B2 : Below w.heap.size w w2 := B1.trans (u2.below (by simp; omega) (fun k hk => by omega))
  obtain ⟨_, c0, c1, _, _⟩ := t2
  simp only at c0 c1
  have NF := Lib.hid (show ∀ k, (Value.slice af m.files.length kf).ownBlock = some k → w.heap.size + 2 ≤ k from fun k hk => by have := (sf.lt k hk).1; simp at this; omega)
  have NS := Lib.hid (show ∀ k, (Value.slice av m.src.length kv).ownBlock = some k → w.heap.size + 2 ≤ k from fun k hk => by have := (ss.lt k hk).1; simp at this; omega)
  have SF := Lib.hid (sf.mono (show w.heap.size ≤ _ by simp; omega))
  have SS := Lib.hid (ss.mono (show w.heap.size ≤ _ by simp; omega))
  have hlt : w.heap.size + 1 < w2.heap.size := by omega
  have hlt0 : w.heap.size < w2.heap.size := by omega
  clear sf ss u2 hr1 B1
  unfold meV
  have FINo := Lib.hid (fun W' (T : Turn (fun k => k = w.heap.size) (w2.alloc (.cells #[.string (bs m.id), .int .i64 m.mn, .int .i64 m.mx, .int .i64 m.lv, .int .i64 m.se, .int .i64 m.sa, .slice af m.files.length kf, .slice av m.src.length kv] 25)) W') => show TakO w m l1 (.returned (.tuple #[.agg #[.string (bs m.id), .int .i64 m.mn, .int .i64 m.mx, .int .i64 m.lv, .int .i64 m.se, .int .i64 m.sa, .slice af m.files.length kf, .slice av m.src.length kv], .string (bs l1), .int .i64 0])) W' from
    ⟨_, _, rfl, (SF.out.alloc _).turn T (fun k hk => by have := NF.out k hk; omega), (SS.out.alloc _).turn T (fun k hk => by have := NS.out k hk; omega), (B2.alloc B2.size _).trans (T.below (by simp; omega) (fun k hk => Nat.le_of_eq hk.symm))⟩)
  have HR2 := Lib.hid hr2
  clear hr2 B2 z2
  go_wp2
  obtain ⟨W, hW⟩ : ∃ W, W = w2.alloc (.cells #[.string (bs m.id), .int .i64 m.mn, .int .i64 m.mx, .int .i64 m.lv, .int .i64 m.se, .int .i64 m.sa, .slice af m.files.length kf, .slice av m.src.length kv] 25) := ⟨_, rfl⟩
  have hr3 := (Below.heap_alloc w2 (.cells #[.string (bs m.id), .int .i64 m.mn, .int .i64 m.mx, .int .i64 m.lv, .int .i64 m.se, .int .i64 m.sa, .slice af m.files.length kf, .slice av m.src.length kv] 25) w.heap.size hlt0).trans HR2.out
  have hb3 := heap_alloc_new w2 (.cells #[.string (bs m.id), .int .i64 m.mn, .int .i64 m.mx, .int .i64 m.lv, .int .i64 m.se, .int .i64 m.sa, .slice af m.files.length kf, .slice av m.src.length kv] 25)
  have d0 := ((Below.refl w2.heap.size w2).alloc (Nat.le_refl _) (.cells #[.string (bs m.id), .int .i64 m.mn, .int .i64 m.mx, .int .i64 m.lv, .int .i64 m.se, .int .i64 m.sa, .slice af m.files.length kf, .slice av m.src.length kv] 25)).cell (p := ⟨w.heap.size + 1, 0, none⟩) hlt
  rw [c0] at d0
  rw [← hW] at FINo hr3 hb3 d0 ⊢
  clear hW c0 c1
  obtain ⟨b2, hb2⟩ : ∃ b, b = w2.heap.size := ⟨_, rfl⟩
  rw [← hb2] at hb3 ⊢
  clear hb2
  obtain ⟨p0, p1, p2, p3, p4, p5, p6, p7⟩ := cells8 hb3
  obtain ⟨r0, r1, r2, r3, r4, r5, r6, r7⟩ := cells8 hr3
  obtain ⟨g0, g1, g2, g3, g4, g5, g6, g7⟩ := frozen8 hr3
  clear hr3 hb3 HR2 hlt hlt0
  go_region
  all_goals go_wp2
  all_goals exact bodyPost_ret (v := .tuple #[.agg #[.string (bs m.id), .int .i64 m.mn, .int .i64 m.mx, .int .i64 m.lv, .int .i64 m.se, .int .i64 m.sa, .slice af m.files.length kf, .slice av m.src.length kv], .string (bs l1), .int .i64 0]) (by simp [results, Tryd.results8, go_sem, r0, r1, r2, r3, r4, r5, r6, r7]) rfl (FINo.out _ (turn_set8 w.heap.size _ _ _ _ _ _ _ _ _).drew)

set_option maxHeartbeats 2000000 in
set_option maxRecDepth 100000 in
theorem put_any (m : Mt.Me) (vf vs : Value) (w : World) (h : MeR w m vf vs) (hc : Mt.chk m = true) (hsum : ∀ f ∈ m.files, f.sum < 4294967296) :
    Calls Tryd.prog 9 #[.slice none 0 0, meV m vf vs] w fun e w' => ∃ a c, e = .returned (.slice a (Mt.fld m).length c) ∧ Sl w' w.heap.size 1 (.slice a (Mt.fld m).length c) (Mt.fld m).length (cb (Mt.fld m)) ∧ Below w.heap.size w w' := by
  have F := Lib.hid (fun W hW => fields_any m vf vs W hW hc hsum)
  have H := Lib.hid h
  obtain ⟨-, af, kf, gf, o5f, rfl, -⟩ := h.1
  obtain ⟨-, a5, k5, g5, o5, rfl, -⟩ := h.2.1
  have hfl := Mt.fld_len m hc
  obtain ⟨d, hd⟩ : ∃ d, d = Mt.fld m := ⟨_, rfl⟩
  rw [← hd] at F hfl ⊢
  clear h hc hsum hd
  unfold meV at F ⊢
  go_enter Tryd.func9, Tryd.ntmps9
  go_wp2_with fail
  refine (F.out _ (H.out.on ((Below.refl _ _).alloc (Nat.le_refl _) _))).mono ?_
  rintro e w1 ⟨v1, rfl, s1, b1⟩
  obtain ⟨a1, c1, rfl⟩ := s1.slice
  have C := Lib.hid (fun W (h : Rds W (.slice (some ⟨w1.heap.size, 0, none⟩) 2 2) [[], cb d]) => concat_any (.slice (some ⟨w1.heap.size, 0, none⟩) 2 2) [[], cb d] W h (by
      intro l hl
      simp only [List.mem_cons, List.not_mem_nil, or_false] at hl
      rcases hl with rfl | rfl
      · intro u hu; simp at hu
      · exact cb_one d) (by simp) (by simp [cb_length]; omega))
  have hf : ([[], cb d] : List (List Value)).flatten = cb d := by simp
  rw [hf, cb_length] at C
  have hR := Lib.hid (show Rds (w1.alloc (.cells #[.slice none 0 0, .slice a1 d.length c1] 34)) (.slice (some ⟨w1.heap.size, 0, none⟩) 2 2) [[], cb d] from by
    have hsl := Sl.lit w1 0 1 2 #[.slice none 0 0, .slice a1 d.length c1] 34 (Nat.zero_le _) (by decide) rfl
    have hx := hsl.cells
    refine ⟨_, 2, w1.heap.size, 0, rfl, fun _ => ⟨rfl, by simp⟩, fun j l hl => ?_⟩
    match j, hl with
    | 0, hl =>
      cases hl
      refine ⟨_, hx 0 _ rfl, Rd.of_sl (Sl.nil _ 0 _)⟩
    | 1, hl =>
      cases hl
      refine ⟨_, hx 1 _ rfl, ?_⟩
      rw [cb_length]
      exact Rd.of_sl (s1.alloc _))
  have B1 := Lib.hid ((((Below.refl w.heap.size w).alloc (Nat.le_refl _) _).trans (b1.mono (by simp))))
  have hz1 := B1.out.size
  have B2 := Lib.hid (B1.out.alloc hz1 (.cells #[.slice none 0 0, .slice a1 d.length c1] 34))
  clear s1 b1 hf
  go_wp2_with fail
  refine (C.out _ hR.out).mono ?_
  rintro e w2 ⟨a2, c2, rfl, s2, b2⟩
  go_wp2
  go_ret
  exact ⟨_, _, rfl, s2.mono (by simp; omega), B2.out.trans (b2.mono (by simp; omega))⟩
end Go.Proofs.YtkhpemfkbdiloaaDoor

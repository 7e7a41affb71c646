/- Layer 9: Decode. -/
import Derived.Test.YtkhpemfkbdiloaaDoorMB
import Derived.RegionTactic
namespace Go.Proofs.YtkhpemfkbdiloaaDoor
open Go.RowKit Go.Lib

def zMeV : Value := .agg #[.string ⟨#[]⟩, .int .i64 0, .int .i64 0, .int .i64 0, .int .i64 0, .int .i64 0, .slice none 0 0, .slice none 0 0]
/-- The answer: a meta; or an error. -/
def DecO (w : World) (m : Mt.Me) (e : Ending) (w' : World) : Prop :=
  ∃ vf vs, e = .returned (.tuple #[meV m vf vs, .int .i64 0]) ∧ Sl w' w.heap.size 3 vf m.files.length (flc m.files) ∧ Sl w' w.heap.size 1 vs m.src.length (sc m.src) ∧ Below w.heap.size w w'
def DecN (w : World) (n : Nat) (e : Ending) (w' : World) : Prop := e = .returned (.tuple #[zMeV, .int .i64 n]) ∧ Below w.heap.size w w'
/-- The one or the other. -/
def DecP (w : World) (m : Mt.Me) (n : Nat) (e : Ending) (w' : World) : Prop := if n = 0 then DecO w m e w' else DecN w n e w'

theorem decP_ok {w w' : World} {m : Mt.Me} {e : Ending} (h : DecO w m e w') : DecP w m 0 e w' := by unfold DecP; rw [if_pos rfl]; exact h
theorem decP_no {w w' : World} {m : Mt.Me} {n : Nat} {e : Ending} (hn : n ≠ 0) (h : DecN w n e w') : DecP w m n e w' := by unfold DecP; rw [if_neg hn]; exact h

set_option maxHeartbeats 2000000 in
set_option maxRecDepth 100000 in
theorem decode_any (s : List UInt8) (w : World) (hs : s.length ≤ 140737488350000) (hP : PartsAt w) (m : Mt.Me) (l2 : List UInt8) (e2 : Nat) (hd : Mt.dcd s = (m, (l2, e2))) :
    Calls Tryd.prog 6 #[.string (bs s)] w (DecP w m e2) := by
  have hT := bs_toList
  have hol := opn_len s 1
  obtain ⟨l, er, ho⟩ : ∃ l er, Mt.opn s 1 = (l, er) := ⟨_, _, rfl⟩
  have O := Lib.hid (fun W => show Calls Tryd.prog 18 #[.string (bs s), .int .u8 1] W (fun e w' => e = .returned (.agg #[.string (bs l), .int .i64 er]) ∧ Below W.heap.size W w') by
    have := open_any s 1 W hs
    rw [ho] at this
    exact this)
  rw [ho] at hol
  simp only at hol
  obtain ⟨pq, hm⟩ : ∃ pq, Mt.meC (l, er) = pq := ⟨_, rfl⟩
  obtain ⟨m', l1, e1⟩ := pq
  have hdd : m' = m ∧ Mt.dem (l1, e1) (decide (l1 = [])) = (l2, e2) := by
    unfold Mt.dcd at hd
    rw [ho, hm] at hd
    exact Prod.mk.inj hd
  obtain ⟨rfl, hde⟩ := hdd
  have M := Lib.hid (fun b W h hP hb => meta_any b (l, er) W h (by simp only; omega) hP hb m' (l1, e1) hm)
  have D := Lib.hid (fun b so (hso : so = decide (l1 = [])) W h => show Calls Tryd.prog 20 #[.pointer (some ⟨b, 0, none⟩), .bool so] W (TkE b W (l2, e2)) by
    have := tkd_any b (l1, e1) so W h
    rw [hso, hde] at this
    rw [hso]
    exact this)
  have HP := Lib.hid hP
  have hPw := hP.1
  clear hd ho hol hm hde hP hs
  go_enter Tryd.func6, Tryd.ntmps6
  go_wp2_with fail
  refine (O.out _).mono ?_
  rintro e w1 ⟨rfl, b1⟩
  have z1 := b1.size
  simp at z1
  have hr1 := (b1.block w.heap.size (by simp)).trans (heap_alloc_new w _)
  have B1 : Below w.heap.size w w1 := ((Below.refl _ _).alloc (Nat.le_refl _) _).trans (b1.mono (by simp))
  go_wp2_with fail
  refine (M.out w1.heap.size _ (tk_new w1 l er _ _ rfl) (HP.out.below (B1.alloc (by omega) _)) (by omega)).mono ?_
  rintro e w2 ⟨vf, vs, rfl, t2, sf, ss, u2⟩
  obtain ⟨af, kf, rfl⟩ := sf.slice
  obtain ⟨av, kv, rfl⟩ := ss.slice
  have z2 := u2.size
  simp at z2
  have hr2 := ((u2.block w.heap.size (by simp; omega) (by omega)).trans (Below.heap_alloc w1 _ w.heap.size (by omega))).trans hr1
  have B2 : Below w.heap.size w w2 := (B1.alloc (by omega) _).trans (u2.below (by simp; omega) (fun k hk => by omega))
  have T2 := Lib.hid t2
  obtain ⟨_, c0, c1, _, _⟩ := t2
  simp only at c0 c1
  have hsz : w.heap.size ≤ (w1.alloc (.cells #[.string (bs l), .int .i64 er] 53)).heap.size := by simp; omega
  have NF := Lib.hid (show ∀ k, (Value.slice af m'.files.length kf).ownBlock = some k → w1.heap.size + 1 ≤ k from fun k hk => by have := (sf.lt k hk).1; simp at this; omega)
  have NS := Lib.hid (show ∀ k, (Value.slice av m'.src.length kv).ownBlock = some k → w1.heap.size + 1 ≤ k from fun k hk => by have := (ss.lt k hk).1; simp at this; omega)
  have SF := Lib.hid (sf.mono hsz)
  have SS := Lib.hid (ss.mono hsz)
  clear sf ss u2 hr1 b1 hsz
  unfold meV
  have hne : w1.heap.size ≠ w2.heap.size := by omega
  have hlt : w1.heap.size < w2.heap.size := by omega
  have hl1 : l1 = [] ∨ ∃ c r, l1 = c :: r := by cases l1 <;> simp
  have DC : ∃ so, so = decide (l1 = []) ∧ ((l1 = [] ∧ so = true) ∨ ((∃ c r, l1 = c :: r) ∧ so = false)) := by
    rcases hl1 with rfl | ⟨c, r, rfl⟩
    · exact ⟨true, rfl, .inl ⟨rfl, rfl⟩⟩
    · exact ⟨false, rfl, .inr ⟨⟨c, r, rfl⟩, rfl⟩⟩
  obtain ⟨so, hso, hcase⟩ := DC
  have D2 := Lib.hid (fun b W h => D.out b so hso W h)
  clear D hl1 hso
  rcases hcase with ⟨rfl, rfl⟩ | ⟨⟨c, r, rfl⟩, rfl⟩
  all_goals
    go_wp2_with fail
    refine (D2.out w1.heap.size _ (T2.out.below ((Below.refl _ _).alloc (Nat.le_refl _) _))).mono ?_
    rintro e w3 ⟨rfl, t3, u3⟩
    have z3 := u3.size
    simp at z3
    have hb3 := (u3.block w2.heap.size (by simp) (by omega)).trans (heap_alloc_new w2 _)
    have hr3 := ((u3.block w.heap.size (by simp; omega) (by omega)).trans (Below.heap_alloc w2 _ w.heap.size (by omega))).trans hr2
    have B3 : Below w.heap.size w w3 := (B2.alloc B2.size _).trans (u3.below (by simp; omega) (fun k hk => by omega))
    obtain ⟨_, d0, d1, _, _⟩ := t3
    simp only at d0 d1
    obtain ⟨p0, p1, p2, p3, p4, p5, p6, p7⟩ := cells8 hb3
    obtain ⟨r0, r1, r2, r3, r4, r5, r6, r7⟩ := cells8 hr3
    obtain ⟨g0, g1, g2, g3, g4, g5, g6, g7⟩ := frozen8 hr3
    have SF3 := ((SF.out.alloc (.cells #[.string (bs m'.id), .int .i64 m'.mn, .int .i64 m'.mx, .int .i64 m'.lv, .int .i64 m'.se, .int .i64 m'.sa, .slice af m'.files.length kf, .slice av m'.src.length kv] 25)).turn u3 (fun k hk => by have := NF.out k hk; omega))
    have SS3 := ((SS.out.alloc (.cells #[.string (bs m'.id), .int .i64 m'.mn, .int .i64 m'.mx, .int .i64 m'.lv, .int .i64 m'.se, .int .i64 m'.sa, .slice af m'.files.length kf, .slice av m'.src.length kv] 25)).turn u3 (fun k hk => by have := NS.out k hk; omega))
    have FINo := Lib.hid (fun W' (T : Turn (fun k => k = w.heap.size) w3 W') => show DecO w m' (.returned (.tuple #[.agg #[.string (bs m'.id), .int .i64 m'.mn, .int .i64 m'.mx, .int .i64 m'.lv, .int .i64 m'.se, .int .i64 m'.sa, .slice af m'.files.length kf, .slice av m'.src.length kv], .int .i64 0])) W' from
      ⟨_, _, rfl, SF3.turn T (fun k hk => by have := NF.out k hk; omega), SS3.turn T (fun k hk => by have := NS.out k hk; omega), B3.trans (T.below B3.size (fun k hk => Nat.le_of_eq hk.symm))⟩)
    have FINn := Lib.hid (fun W' (T : Turn (fun k => k = w.heap.size) w3 W') => show DecN w e2 (.returned (.tuple #[zMeV, .int .i64 e2])) W' from
      ⟨rfl, B3.trans (T.below B3.size (fun k hk => Nat.le_of_eq hk.symm))⟩)
    clear SF3 SS3 hb3 hr3 u3 c0 c1
    by_cases he : e2 = 0
    · subst he
      go_wp2
      exact bodyPost_ret (v := .tuple #[.agg #[.string (bs m'.id), .int .i64 m'.mn, .int .i64 m'.mx, .int .i64 m'.lv, .int .i64 m'.se, .int .i64 m'.sa, .slice af m'.files.length kf, .slice av m'.src.length kv], .int .i64 0]) (by simp [results, Tryd.results6, go_sem, r0, r1, r2, r3, r4, r5, r6, r7]) rfl (decP_ok (FINo.out _ (turn_set8 w.heap.size _ _ _ _ _ _ _ _ _)))
    · have he' : ((e2 : Int) == 0) = false := by rw [beq_eq_false_iff_ne]; omega
      have he2 : ((e2 : Int) != 0) = true := by rw [bne, he']; rfl
      have HE := Lib.hid he
      clear he
      go_wp2
      go_region
      all_goals go_wp2
      all_goals exact bodyPost_ret (v := .tuple #[zMeV, .int .i64 e2]) (by simp [results, Tryd.results6, go_sem, zMeV, r0, r1, r2, r3, r4, r5, r6, r7]) rfl (decP_no HE.out (FINn.out _ (turn_set8 w.heap.size _ _ _ _ _ _ _ _ _).drew))
end Go.Proofs.YtkhpemfkbdiloaaDoor

/- Layer 6: a set taken from bytes. -/
import Derived.Test.YtmgnmppdeiflbaaDoorLJ
namespace Go.Proofs.YtmgnmppdeiflbaaDoor
open Go.RowKit Go.Lib

/-- So many pairs at the beginning of bytes. -/
def tkN : Nat → List UInt8 → List Pr × List UInt8 × Nat
  | 0, l => ([], l, 0)
  | n + 1, l => if (tkP l).2.2 ≠ 0 then ([], [], (tkP l).2.2) else
    if (tkN n (tkP l).2.1).2.2 ≠ 0 then ([], [], (tkN n (tkP l).2.1).2.2) else ((tkP l).1 :: (tkN n (tkP l).2.1).1, (tkN n (tkP l).2.1).2.1, 0)
/-- Pairs ahead of what is still taken. -/
def glue (ds : List Pr) (q : List Pr × List UInt8 × Nat) : List Pr × List UInt8 × Nat := if q.2.2 ≠ 0 then ([], [], q.2.2) else (ds ++ q.1, q.2.1, 0)
theorem glue_step (ds : List Pr) (n : Nat) (l r : List UInt8) (x : Pr) (h : tkP l = (x, r, 0)) : glue ds (tkN (n + 1) l) = glue (ds ++ [x]) (tkN n r) := by
  simp only [tkN, h, glue]
  by_cases hq : (tkN n r).2.2 = 0 <;> simp [hq]
theorem glue_bad (ds : List Pr) (n : Nat) (l r : List UInt8) (x : Pr) (e : Nat) (h : tkP l = (x, r, e)) (he : e ≠ 0) : glue ds (tkN (n + 1) l) = ([], [], e) := by
  simp [tkN, h, glue, he]
theorem glue_end (ds : List Pr) (l : List UInt8) : glue ds (tkN 0 l) = (ds, l, 0) := by simp [glue, tkN]
/-- The set at the beginning of bytes. -/
def tkS (s : List UInt8) : List Pr × List UInt8 × Nat :=
  if (Leb.takeM s 8).2.2 ≠ 0 then ([], [], (Leb.takeM s 8).2.2)
  else if (glue [] (tkN (Leb.takeM s 8).1 (Leb.takeM s 8).2.1)).2.2 ≠ 0 then ([], [], (glue [] (tkN (Leb.takeM s 8).1 (Leb.takeM s 8).2.1)).2.2)
  else if chk (glue [] (tkN (Leb.takeM s 8).1 (Leb.takeM s 8).2.1)).1 = true then glue [] (tkN (Leb.takeM s 8).1 (Leb.takeM s 8).2.1) else ([], [], 3)
def TookP (w : World) (r : List Pr × List UInt8 × Nat) (e : Ending) (w' : World) : Prop :=
  ∃ v, e = .returned (.tuple #[v, .string (bs r.2.1), .int .i64 r.2.2]) ∧ Below w.heap.size w w' ∧ (r.2.2 ≠ 0 → v = .slice none 0 0) ∧ (r.2.2 = 0 → Sl w' w.heap.size 2 v r.1.length (prc r.1))

theorem tkP_left (l : List UInt8) : (tkP l).2.1.length ≤ l.length := by
  have h1 := takeT_left l 40
  have h2 := takeT_left (Leb.takeT l 40).2.1 40
  unfold tkP
  split
  · simp
  · split
    · simp
    · simp only; omega

/-- 'make([]Pair, n)'. -/
theorem run_mkset (W : World) (n : Nat) (hn : n ≤ 8) : ∃ w', (Instr.makeSlice 25 (.int .i64 n) (.int .i64 n)).run Tryd.prog W = .ok (.slice (some ⟨W.heap.size, 0, none⟩) n n) w' ∧
    w'.heap.size = W.heap.size + 1 ∧ Below W.heap.size W w' ∧ Sl w' W.heap.size 2 (.slice (some ⟨W.heap.size, 0, none⟩) 0 n) 0 [] := by
  obtain ⟨i0, hi, hz0, hz1, hz2⟩ := info_parts zc_pair
  have hr := run_make (P := Tryd.prog) W 25 51 i0 _ Tryd.underlying25 hi hz0 .i64 .i64 n n (by omega) (by omega) (by rw [hz2]; omega) (by omega)
  rw [Int.toNat_natCast] at hr
  have hown := World.ownsRow_made (e := 51) (size := 2) W (madeCells (Value.agg #[.string ⟨#[]⟩, .string ⟨#[]⟩]).cells (n * 2)) n (Nat.le_refl _) (by unfold maxLen; omega) (by rw [size_madeCells])
  rw [hz1] at hr
  have hs := Sl.of_owns hown
  refine ⟨_, hr, by simp, (Below.refl _ _).alloc (Nat.le_refl _) _, hs⟩

theorem free_sl {w : World} {base size g n c : Nat} {xs : List Value} (h : Sl w base size (.slice (some ⟨g, 0, none⟩) n c) n xs) (j : Nat) (hj : j < c * size) : ∃ y, w.cell? ⟨g, j, none⟩ = some y ∧ w.frozen? ⟨g, j, none⟩ = false := by
  rcases h.2 with ⟨h, _⟩ | ⟨g', off', cap', he, _, _, _, _, h5, _⟩
  · cases h
  · cases he
    obtain ⟨p, q⟩ := h5 j hj
    rw [Nat.zero_add] at p q
    obtain ⟨y, hy⟩ := Option.isSome_iff_exists.1 p
    exact ⟨y, hy, q⟩
set_option maxHeartbeats 4000000 in
set_option maxRecDepth 100000 in
theorem take_lb (s : List UInt8) (w : World) (hl : s.length ≤ 1000000) : Calls Tryd.prog 23 #[.string (bs s)] w (TookP w (tkS s)) := by
  obtain ⟨u, r, er, hM⟩ : ∃ u r er, Leb.takeM s 8 = (u, r, er) := ⟨_, _, _, rfl⟩
  obtain ⟨m1, m2, m3, m4, m5⟩ := Leb.takeM_small hM (by omega)
  have HM := Lib.hid (fun W => takeM_is (show Leb.takeM (bs s).data.toList 8 = (u, r, er) by rw [bs_list]; exact hM) W (by rw [bs_size]; unfold maxLen; omega) (by omega) (by omega))
  by_cases he : er = 0
  · subst he
    have hu : u ≤ 8 := by have := m4 rfl; omega
    have HK : tkS s = if (glue [] (tkN u r)).2.2 ≠ 0 then ([], [], (glue [] (tkN u r)).2.2) else if chk (glue [] (tkN u r)).1 = true then glue [] (tkN u r) else ([], [], 3) := by unfold tkS; rw [hM]; simp
    have HK' := Lib.hid HK
    have HU := Lib.hid hu
    clear HK hM m1 m2 m4 m5
    go_enter Tryd.func23, Tryd.ntmps23
    go_wp2_with fail
    refine (HM.out _).mono ?_
    rintro e w1 ⟨rfl, k1, rfl⟩
    obtain ⟨w2, hr2, hz2, hb2, hs2⟩ := run_mkset (w.drewN k1) u HU.out
    rw [World.heap_drewN] at hr2 hz2 hb2 hs2
    have hbw : Below w.heap.size w w2 := (below_draw (Below.refl _ _) k1).trans hb2
    have hgz : w.heap.size < w2.heap.size := by omega
    obtain ⟨G, hG⟩ : ∃ G, G = w.heap.size := ⟨_, rfl⟩
    have HG := Lib.hid hG
    rw [← hG] at hr2 hs2 hbw hgz
    clear hb2 hz2 hG
    have hu0 : 0 ≤ (u : Int) := by omega
    go_wp2_with fail
    go_loopw [6, 23] (fun r' i' wr => ∃ (i : Nat) (ds : List Pr) (q : List UInt8), r' = .string (bs q) ∧ i' = .int .i64 i ∧ i ≤ u ∧ Hid (ds.length = i) ∧ Hid (glue [] (tkN u r) = glue ds (tkN (u - i) q)) ∧ q.length ≤ s.length ∧ Sl wr G 2 (.slice (some ⟨G, 0, none⟩) i u) i (prc ds) ∧ Below G w wr ∧ G < wr.heap.size) (fun _ i' _ => u - (intOf i').toNat)
    case atStart => exact ⟨0, [], r, rfl, rfl, by omega, rfl, rfl, m3, hs2, hbw, hgz⟩
    case round =>
      obtain ⟨i, ds, q, rfl, rfl, hi, hdl, hgl, hq, hs, hb, hgw⟩ := hrel
      clear hr2 hs2 hbw hgz
      by_cases hlt : i < u
      · have hil : (i : Int) < u := by omega
        obtain ⟨x, q', e', hT⟩ : ∃ x q' e', tkP q = (x, q', e') := ⟨_, _, _, rfl⟩
        have hql := tkP_left q
        have HT := Lib.hid (fun W => takepair_any q W (by omega))
        rw [hT] at HT hql
        unfold TakenP prV at HT
        simp only at HT hql
        have hsu : u - i = (u - (i + 1)) + 1 := by omega
        have hgo := hgl.out
        rw [hsu] at hgo
        by_cases he : e' = 0
        · subst he
          rw [glue_step _ _ _ _ _ hT] at hgo
          have HGL := Lib.hid hgo
          clear hgo hgl hT hsu
          go_wp2_with fail
          refine (HT.out _).mono ?_
          rintro e w3 ⟨rfl, b3⟩
          have b4 : Below G w w3 := hb.trans (b3.mono (by omega))
          have hgw3 : G < w3.heap.size := by have := b3.size; omega
          have s3 := hs.on b3
          obtain ⟨y0, f0, f2⟩ := free_sl s3 (i * 2) (by omega)
          obtain ⟨y1, f1, f3⟩ := free_sl s3 (i * 2 + 1) (by omega)
          have HS3 := Lib.hid s3
          clear hs s3 hb b3
          go_wp2_with fail
          have hx := (Ext.stored (m := 1) (news := [.string (bs x.n), .string (bs x.v)]) HS3.out rfl (by omega)).now
          rw [Nat.zero_add] at hx
          refine ⟨⟨i + 1, ds ++ [x], q', rfl, by simp, by omega, ?_, HGL, by omega, ?_, (b4.setCell (Nat.le_refl _) _).setCell (Nat.le_refl _) _, by simpa [World.setCell] using hgw3⟩, by simp [intOf]; omega⟩
          · have := hdl.out
            exact Lib.hid (by simp [this])
          · have hp : prc (ds ++ [x]) = prc ds ++ [.string (bs x.n), .string (bs x.v)] := by simp [prc, encP]
            rw [hp]
            exact hx
        · rw [glue_bad _ _ _ _ _ _ hT he] at hgo
          rw [hgo] at HK'
          have HK2 := Lib.hid (show tkS s = ([], [], e') by have := HK'.out; rw [this]; simp [he])
          have hne : ((e' : Int) != 0) = true := by simp; omega
          clear hgo hgl hT hsu HK'
          go_wp2_with fail
          refine (HT.out _).mono ?_
          rintro e w3 ⟨rfl, b3⟩
          have b4 : Below G w w3 := hb.trans (b3.mono (by omega))
          have s3 := hs.on b3
          obtain ⟨y0, f0, f2⟩ := free_sl s3 (i * 2) (by omega)
          obtain ⟨y1, f1, f3⟩ := free_sl s3 (i * 2 + 1) (by omega)
          have HG1 := Lib.hid (show Below w.heap.size w ((w3.setCell ⟨G, i * 2, none⟩ (.string (bs x.n))).setCell ⟨G, i * 2 + 1, none⟩ (.string (bs x.v))) by rw [← HG.out]; exact (b4.setCell (Nat.le_refl _) _).setCell (Nat.le_refl _) _)
          clear hs hb b3 b4 s3
          go_wp2
          exact bodyPost_ret (v := .tuple #[.slice none 0 0, .string ⟨#[]⟩, .int .i64 e']) (by simp [results, Tryd.results23, go_sem]) rfl ⟨_, by rw [HK2.out]; rfl, HG1.out, fun _ => rfl, fun h => absurd (by rw [HK2.out] at h; exact h) he⟩
      · have hin : i = u := by omega
        have hil : ¬ (i : Int) < u := by omega
        have hgo := hgl.out
        rw [hin, Nat.sub_self, glue_end] at hgo
        rw [hgo] at HK'
        subst hin
        have hdl' := hdl.out
        have HK2 := Lib.hid (show tkS s = if chk ds = true then (ds, q, 0) else ([], [], 3) by have := HK'.out; rw [this]; simp)
        have hs' : Sl wr G 2 (.slice (some ⟨G, 0, none⟩) i i) ds.length (prc ds) := by rw [hdl']; exact hs
        have HC := Lib.hid (check_any _ ds wr (Rd.of_sl hs') (by omega))
        have HS := Lib.hid hs'
        clear hgo hgl HK' hs hs' hdl hdl'
        by_cases hc : chk ds = true
        · rw [hc] at HC HK2
          rw [if_pos rfl] at HK2
          go_wp2_with fail
          refine HC.out.mono ?_
          rintro e w4 ⟨rfl, b4⟩
          have HE := Lib.hid (show Sl w4 w.heap.size 2 (.slice (some ⟨G, 0, none⟩) i i) ds.length (prc ds) by rw [← HG.out]; exact HS.out.on b4)
          have HB := Lib.hid (show Below w.heap.size w w4 by rw [← HG.out]; exact hb.trans (b4.mono (by omega)))
          clear hb b4 hc
          have e0 : cE true = 0 := rfl
          rw [e0]
          go_wp2
          exact bodyPost_ret (v := .tuple #[.slice (some ⟨G, 0, none⟩) i i, .string (bs q), .int .i64 0]) (by simp [results, Tryd.results23, go_sem]) rfl ⟨_, by rw [HK2.out]; rfl, HB.out, fun h => absurd (by rw [HK2.out]) h, fun _ => by rw [HK2.out]; exact HE.out⟩
        · have hcf : chk ds = false := by simpa using hc
          rw [hcf] at HC HK2
          rw [if_neg (by simp)] at HK2
          go_wp2_with fail
          refine HC.out.mono ?_
          rintro e w4 ⟨rfl, b4⟩
          have HB := Lib.hid (show Below w.heap.size w w4 by rw [← HG.out]; exact hb.trans (b4.mono (by omega)))
          clear hb b4 hc hcf
          have e0 : cE false = 12 := rfl
          rw [e0]
          go_wp2
          exact bodyPost_ret (v := .tuple #[.slice none 0 0, .string ⟨#[]⟩, .int .i64 3]) (by simp [results, Tryd.results23, go_sem]) rfl ⟨_, by rw [HK2.out]; rfl, HB.out, fun _ => rfl, fun h => absurd (by rw [HK2.out] at h; exact h) (by simp)⟩
  · have HK := Lib.hid (show tkS s = ([], [], er) by unfold tkS; rw [hM]; simp [he])
    have hne : ((er : Int) != 0) = true := by simp; omega
    clear hM m1 m2 m3 m4 m5
    go_enter Tryd.func23, Tryd.ntmps23
    go_wp2_with fail
    refine (HM.out _).mono ?_
    rintro e w1 ⟨rfl, k1, rfl⟩
    go_wp2
    exact bodyPost_ret (v := .tuple #[.slice none 0 0, .string ⟨#[]⟩, .int .i64 er]) (by simp [results, Tryd.results23, go_sem]) rfl ⟨_, by rw [HK.out]; rfl, below_draw (Below.refl _ _) _, fun _ => rfl, fun h => absurd (by rw [HK.out] at h; exact h) he⟩
end Go.Proofs.YtmgnmppdeiflbaaDoor

/- Layer 13: the law that any text is the matchers that it is, or refused. -/
import Derived.Test.YtobdlfikomnmcaaGreatDoorMTBC
import Derived.Test.YtobdlfikomnmcaaGreatDoorMTMA
namespace Go.Proofs.YtobdlfikomnmcaaGreatDoor
open Go.RowKit Go.Lib
set_option linter.unusedVariables false

theorem cut200_13 (d : List UInt8) (w : World) : Calls Tryz.prog 4 #[.string (bs d), .int .i64 200] w fun e w' => e = .returned (.string (bs (d.take 200))) ∧ w = w' :=
  cut_is (bs d) (d.take 200) 200 200 rfl (cutB_bs d 200) w
theorem pr_ok {t : List UInt8} {l : List (Mr × Value)} (e : l.map (·.1) = if t ≠ [] ∧ ∀ p ∈ parts 44 t, mOk (mrOf p) = true then (parts 44 t).map mrOf else []) (hl : t.length ≤ 100000) : ∀ p ∈ l, OkM p.1 := by
  intro q hq
  have hm : q.1 ∈ l.map (·.1) := List.mem_map_of_mem hq
  rw [e] at hm
  split at hm
  · rename_i h
    obtain ⟨p, hp, hpe⟩ := List.mem_map.1 hm
    have hk := (mrOf_fit p (Nat.le_trans (parts_len 44 t p hp) hl)).1
    have h2 := h.2 p hp
    rw [mOk_is _ hk] at h2
    rw [← hpe]
    exact rOk_out h2
  · cases hm
theorem pr_msr {t : List UInt8} {l : List (Mr × Value)} {W W' : World} {B : Nat} {v : Value} (e : l.map (·.1) = if t ≠ [] ∧ ∀ p ∈ parts 44 t, mOk (mrOf p) = true then (parts 44 t).map mrOf else []) (hl : t.length ≤ 100000) (h : MsO W B v l) (b : Below W.heap.size W W') : MsR W' v l :=
  (h.same b.size fun k _ hk => b.block k hk).rd fun p hp => by
    have := pr_ok e hl p hp
    exact ⟨by have := this.v10; omega, this.k4⟩
set_option maxHeartbeats 4000000 in
set_option maxRecDepth 100000 in
theorem reads13_any (s : List UInt8) (z : Om) (w : World) (hz : OmAt w z) :
    Calls Tryz.prog 3 #[.string (bs s), .agg #[.int .i64 z.k, .string (bs z.n), .slice z.a z.ln z.cp]] w fun e w' => e = .returned (.bool true) ∧ Below w.heap.size w w' := by
  have hT := bs_toList
  have CU := Lib.hid (fun W => cut200_13 s W)
  obtain ⟨t, ht⟩ : ∃ t, t = s.take 200 := ⟨_, rfl⟩
  rw [← ht] at CU
  have htl : t.length ≤ 200 := by rw [ht]; simp; omega
  clear ht
  have PA := Lib.hid (fun W => parse13_whole t W (by omega))
  have PB := Lib.hid (fun W => rparse13_whole t W (by omega))
  have AW := Lib.hid awake13_any
  have HZ := Lib.hid hz
  go_enter Tryz.func3, Tryz.ntmps3
  go_wp2_with fail
  refine (CU.out _).mono ?_
  rintro e y1 ⟨rfl, rfl⟩
  have h0 := heap_alloc_new w (.cells #[.int .i64 z.k, .string (bs z.n), .slice z.a z.ln z.cp] 24)
  obtain ⟨y1, hy1⟩ : ∃ y1, y1 = w.alloc (.cells #[.int .i64 z.k, .string (bs z.n), .slice z.a z.ln z.cp] 24) := ⟨_, rfl⟩
  rw [← hy1] at h0
  have b1 : Below w.heap.size w y1 := by rw [hy1]; exact (Below.refl _ _).alloc (Nat.le_refl _) _
  have z1 : y1.heap.size = w.heap.size + 1 := by rw [hy1]; simp
  have H0 := Lib.hid h0; have B1 := Lib.hid b1; have HY1 := Lib.hid hy1
  clear h0 b1 hy1 hz
  go_wp2_with fail
  rw [← HY1.out]
  refine (PA.out y1).mono ?_
  rintro e y2 ⟨va, er, rfl, b2, la, ea, ma, her⟩
  obtain ⟨aa, ac, rfl⟩ := ma.1.slice
  have z2 := b2.size
  have B2 := Lib.hid b2; have EA := Lib.hid ea; have MA := Lib.hid ma
  have HER := Lib.hid her
  clear b2 ea ma her PA
  go_wp2_with fail
  refine (PB.out y2).mono ?_
  rintro e y3 ⟨vb, er2, rfl, b3, lb, eb, mb, her2⟩
  rw [← HER.out] at her2
  subst her2
  obtain ⟨ba, bc, rfl⟩ := mb.1.slice
  have z3 := b3.size
  have b13 : Below y1.heap.size y1 y3 := B2.out.trans (b3.mono z2)
  have h3 := (b13.block w.heap.size (by omega)).trans H0.out
  have q0 := Lib.cell_of_heap h3 0; have q1 := Lib.cell_of_heap h3 1; have q2 := Lib.cell_of_heap h3 2
  simp at q0 q1 q2
  have hz3 : OmAt y3 z := by
    obtain ⟨k1, k2, k3, k4⟩ := HZ.out
    exact ⟨k1, k2, k3, k4.on (B1.out.trans (b13.mono (by omega)))⟩
  have SH := Lib.hid (short13_any z y3 hz3)
  have B13 := Lib.hid b13; have B3 := Lib.hid b3; have EB := Lib.hid eb; have MB := Lib.hid mb
  clear b3 b13 eb mb h3 hz3 PB HZ
  obtain ⟨na, hna⟩ : ∃ na, na = la.length := ⟨_, rfl⟩
  obtain ⟨nb, hnb⟩ : ∃ nb, nb = lb.length := ⟨_, rfl⟩
  rw [← hna, ← hnb]
  have HNA := Lib.hid hna; have HNB := Lib.hid hnb
  clear hna hnb
  go_wp2_with fail
  refine SH.out.mono ?_
  rintro e y4 ⟨v, rfl, s4, b4⟩
  obtain ⟨a1, c1, rfl⟩ := s4.slice
  have z4 := b4.size
  obtain ⟨nn, hnn⟩ : ∃ nn, nn = z.n.take 42 := ⟨_, rfl⟩
  obtain ⟨vs, hvs⟩ : ∃ vs, vs = vsS z := ⟨_, rfl⟩
  obtain ⟨nv, hnv⟩ : ∃ nv, nv = vs.length := ⟨_, rfl⟩
  obtain ⟨k, hk⟩ : ∃ k, k = z.k := ⟨_, rfl⟩
  have hnl : nn.length ≤ 42 := by rw [hnn]; simp; omega
  have hvl : vs.length ≤ 12 := by rw [hvs]; unfold vsS; simp; omega
  have hvx : ∀ x ∈ vs, x.length ≤ 42 := by
    rw [hvs]; intro x hx; unfold vsS at hx
    obtain ⟨y, _, rfl⟩ := List.mem_map.1 hx
    simp; omega
  rw [← hvs] at s4
  rw [← hnn, ← hvs, ← hnv]
  rw [← hnv] at s4
  obtain ⟨y5, hy5⟩ : ∃ y5, y5 = (y4.alloc (.cells #[.int .i64 k, .string (bs nn), .slice a1 nv c1] 33)).alloc (.cells #[.int .i64 k, .string (bs nn), .slice a1 nv c1] 24) := ⟨_, rfl⟩
  have z5 : y5.heap.size = y4.heap.size + 2 := by rw [hy5]; simp
  have b45 : Below y4.heap.size y4 y5 := by rw [hy5]; exact ((Below.refl _ _).alloc (Nat.le_refl _) _).alloc (by simp) _
  have b35 : Below y3.heap.size y3 y5 := b4.trans (b45.mono z4)
  have hX : y5.heap[y4.heap.size]? = some (.cells #[.int .i64 k, .string (bs nn), .slice a1 nv c1] 33) := by
    rw [hy5, Below.heap_alloc _ _ _ (by simp)]
    exact heap_alloc_new y4 _
  have hY : y5.heap[y4.heap.size + 1]? = some (.cells #[.int .i64 k, .string (bs nn), .slice a1 nv c1] 24) := by
    have := heap_alloc_new (y4.alloc (.cells #[.int .i64 k, .string (bs nn), .slice a1 nv c1] 33)) (.cells #[.int .i64 k, .string (bs nn), .slice a1 nv c1] 24)
    rw [hy5]
    simpa using this
  have S5 := s4.on b45
  have hcap : nv ≤ c1 := by
    rcases S5.2 with ⟨e, h⟩ | ⟨g, off, cap, e, _, _, h, _⟩ <;> cases e <;> omega
  have CT := Lib.hid (fun W (b : Below y5.heap.size y5 W) => show (W.cell? ⟨y4.heap.size, 0, none⟩ = some (.int .i64 k) ∧ W.cell? ⟨y4.heap.size, 1, none⟩ = some (.string (bs nn)) ∧ W.cell? ⟨y4.heap.size, 2, none⟩ = some (.slice a1 nv c1)) ∧ (W.cell? ⟨y4.heap.size + 1, 0, none⟩ = some (.int .i64 k) ∧ W.cell? ⟨y4.heap.size + 1, 1, none⟩ = some (.string (bs nn)) ∧ W.cell? ⟨y4.heap.size + 1, 2, none⟩ = some (.slice a1 nv c1)) from by
    have gX := (b.block _ (by omega)).trans hX
    have gY := (b.block _ (by omega)).trans hY
    have r0 := Lib.cell_of_heap gX 0; have r1 := Lib.cell_of_heap gX 1; have r2 := Lib.cell_of_heap gX 2
    have p0 := Lib.cell_of_heap gY 0; have p1 := Lib.cell_of_heap gY 1; have p2 := Lib.cell_of_heap gY 2
    simp at r0 r1 r2 p0 p1 p2
    exact ⟨⟨r0, r1, r2⟩, p0, p1, p2⟩)
  obtain ⟨r, hr⟩ : ∃ r, rOk k nn vs = r := ⟨_, rfl⟩
  have RV : ∀ W, Below y5.heap.size y5 W → Rd W 1 (.slice a1 nv c1) vs.length (txs vs) := fun W b => by rw [← hnv]; exact Rd.of_sl (S5.on b)
  have CAW : ∀ W, Below y5.heap.size y5 W → Calls Tryz.prog 8 #[] W fun e w' => e = .returned (.bool true) ∧ Below y5.heap.size y5 w' := fun W b => quiet_below b (Nat.le_refl _) (AW.out W)
  have CSM : ∀ W, Below y5.heap.size y5 W → Calls Tryz.prog 9 #[.slice aa na ac, .slice ba nb bc] W fun e w' => e = .returned (.bool true) ∧ Below y5.heap.size y5 w' := fun W b => quiet_below b (Nat.le_refl _) (by
    have bA := (B3.out.trans (b35.mono z3)).trans (b.mono (by have := b35.size; omega))
    have bB := b35.trans (b.mono b35.size)
    have mA := pr_msr EA.out (by omega) MA.out bA
    have mB := pr_msr EB.out (by omega) MB.out bB
    rw [HNA.out, HNB.out]
    exact same13b_any _ _ la lb W mA mB (EA.out.trans EB.out.symm) (by
      have := congrArg List.length EA.out
      rw [List.length_map] at this
      rw [this]
      split
      · rw [List.length_map]; have := parts_count 44 t; omega
      · simp))
  have CCK : ∀ W, Below y5.heap.size y5 W → Calls Tryz.prog 10 #[.agg #[.int .i64 k, .string (bs nn), .slice a1 nv c1]] W fun e w' => e = .returned (.int .i64 (if r then 0 else 1)) ∧ Below y5.heap.size y5 w' := fun W b => quiet_below b (Nat.le_refl _) (by
    rw [← hr]
    exact check13_int k nn vs _ W (RV W b) (by omega) (by omega) (fun x hx => by have := hvx x hx; omega))
  have CRC : ∀ W, Below y5.heap.size y5 W → Calls Tryz.prog 11 #[.agg #[.int .i64 k, .string (bs nn), .slice a1 nv c1]] W fun e w' => e = .returned (.bool r) ∧ Below y5.heap.size y5 w' := fun W b => quiet_below b (Nat.le_refl _) (by
    rw [← hr]
    exact rcheck13_any k nn vs _ W (RV W b) (by omega) (by omega) (fun x hx => by have := hvx x hx; omega))
  obtain ⟨tx, htx⟩ : ∃ tx, tx = bs (tOf ⟨k.toNat, nn, vs⟩) := ⟨_, rfl⟩
  have KJ : r = true → ∃ j : Nat, k = j ∧ k.toNat = j ∧ OkM ⟨j, nn, vs⟩ := fun h => by
    have hk2 : ¬ (k < 1 ∨ 4 < k) := fun hh => by rw [rOk_far hh] at hr; rw [← hr] at h; cases h
    obtain ⟨j, hj⟩ : ∃ j : Nat, k = j := ⟨k.toNat, by omega⟩
    refine ⟨j, hj, by omega, rOk_out (m := ⟨j, nn, vs⟩) ?_⟩
    show rOk (j : Int) nn vs = true
    rw [← hj, hr, h]
  have CST : r = true → ∀ W, Below y5.heap.size y5 W → Calls Tryz.prog 12 #[.agg #[.int .i64 k, .string (bs nn), .slice a1 nv c1]] W fun e w' => e = .returned (.string tx) ∧ Below y5.heap.size y5 w' := fun h W b => quiet_below b (Nat.le_refl _) (by
    obtain ⟨j, hj, hj2, ho⟩ := KJ h
    rw [htx, hj2, hj]
    exact string13_any ⟨j, nn, vs⟩ (.slice a1 nv c1) W (RV W b) (fun a n c e => by cases e; exact hcap) ho)
  have CTX : r = true → ∀ W, Below y5.heap.size y5 W → Calls Tryz.prog 13 #[.agg #[.int .i64 k, .string (bs nn), .slice a1 nv c1]] W fun e w' => e = .returned (.string tx) ∧ Below y5.heap.size y5 w' := fun h W b => quiet_below b (Nat.le_refl _) (by
    obtain ⟨j, hj, hj2, ho⟩ := KJ h
    rw [htx, hj2, hj]
    exact rtext13_any ⟨j, nn, vs⟩ (.slice a1 nv c1) W (RV W b) ho)
  have HST := Lib.hid CST; have HTX := Lib.hid CTX
  clear KJ CST CTX htx
  have B5 := Lib.hid (show Below w.heap.size w y5 from B1.out.trans ((B13.out.trans (b35.mono (by have := B13.out.size; omega))).mono (by omega)))
  have HAW := Lib.hid CAW; have HSM := Lib.hid CSM; have HCK := Lib.hid CCK; have HRC := Lib.hid CRC; have HRV := Lib.hid RV
  have HR := Lib.hid hr
  have HY5 := Lib.hid hy5
  rw [← hk]
  clear hr hy5 hX hY S5 s4 b4 b45 b35 RV CAW CSM CCK CRC q0 q1 q2 B3 MA MB EA EB HNA HNB AW H0 B2 B13 SH hnn hvs hnv hk z5 z1
  cases r
  all_goals
    have hck := HCK.out
    try simp only [Bool.false_eq_true, if_false] at hck
    try simp only [if_true] at hck
    clear HCK
    have HCK := Lib.hid hck
    clear hck
    go_upto_region 6 with fail
    rw [← HY5.out]
    refine wp_region_quietC (C := fun W => Below y5.heap.size y5 W) (by kernel_rfl) (by kernel_rfl) (Below.refl y5.heap.size y5).drew ?_
    repeat (first
      | go_big_quiet_skip
      | (go_big_quiet_want; go_big_quiet_op; go_big_quiet_on)
      | (go_big_quiet_want; go_big_quiet_op; refine ⟨_, fun _ _ => rfl, ?_⟩; go_big_quiet_on)
      | (go_big_quiet_want; go_big_quiet_op; apply Exists.intro; refine And.intro (fun W hW => ?_) ?_; (obtain ⟨⟨k0, k1, k2⟩, k3, k4, k5⟩ := CT.out W hW; (try go_simp); (first | done | with_reducible rfl | (go_at_call 8; exact HAW.out _ hW) | (go_at_call 9; exact HSM.out _ hW) | (go_at_call 10; exact HCK.out _ hW) | (go_at_call 11; exact HRC.out _ hW) | fail)); go_big_quiet_on)
      | (go_big_quiet_want; apply Exists.intro; refine And.intro (fun W hW => ?_) ?_; (obtain ⟨⟨k0, k1, k2⟩, k3, k4, k5⟩ := CT.out W hW; go_simp; (first | done | with_reducible rfl | (go_at_call 8; exact HAW.out _ hW) | (go_at_call 9; exact HSM.out _ hW) | (go_at_call 10; exact HCK.out _ hW) | (go_at_call 11; exact HRC.out _ hW) | fail)); go_big_quiet_on; try simp only [Act.put, List.setIfInBounds_toArray, List.set_cons_zero, List.set_cons_succ]))
    with_reducible refine wpQuiet_nil ?_
    intro w6 hw6
    have HW6 := Lib.hid hw6
    clear hw6
    go_wp2_with fail
    refine wp_region_quietC (C := fun W => Below y5.heap.size y5 W) (by kernel_rfl) (by kernel_rfl) HW6.out.drew ?_
    repeat (first
      | go_big_quiet_skip
      | (go_big_quiet_want; go_big_quiet_op; go_big_quiet_on)
      | (go_big_quiet_want; go_big_quiet_op; refine ⟨_, fun _ _ => rfl, ?_⟩; go_big_quiet_on)
      | (go_big_quiet_want; go_big_quiet_op; apply Exists.intro; refine And.intro (fun W hW => ?_) ?_; (obtain ⟨⟨k0, k1, k2⟩, k3, k4, k5⟩ := CT.out W hW; (try go_simp); (first | done | with_reducible rfl | (go_at_call 8; exact HAW.out _ hW) | (go_at_call 9; exact HSM.out _ hW) | (go_at_call 10; exact HCK.out _ hW) | (go_at_call 11; exact HRC.out _ hW) | (go_at_call 12; exact HST.out (by trivial) _ hW) | (go_at_call 13; exact HTX.out (by trivial) _ hW) | fail)); go_big_quiet_on)
      | (go_big_quiet_want; apply Exists.intro; refine And.intro (fun W hW => ?_) ?_; (obtain ⟨⟨k0, k1, k2⟩, k3, k4, k5⟩ := CT.out W hW; go_simp; (first | done | with_reducible rfl | (go_at_call 8; exact HAW.out _ hW) | (go_at_call 9; exact HSM.out _ hW) | (go_at_call 10; exact HCK.out _ hW) | (go_at_call 11; exact HRC.out _ hW) | (go_at_call 12; exact HST.out (by trivial) _ hW) | (go_at_call 13; exact HTX.out (by trivial) _ hW) | fail)); go_big_quiet_on; try simp only [Act.put, List.setIfInBounds_toArray, List.set_cons_zero, List.set_cons_succ]))
    with_reducible refine wpQuiet_nil ?_
    intro w8 hw8
    have HW8 := Lib.hid hw8
    clear hw8
    go_wp2_with fail
    go_ret
    exact ⟨rfl, B5.out.trans (HW8.out.mono B5.out.size)⟩
end Go.Proofs.YtobdlfikomnmcaaGreatDoor

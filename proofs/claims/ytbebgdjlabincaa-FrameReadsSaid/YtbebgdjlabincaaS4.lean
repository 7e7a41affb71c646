/- The statement FrameReads, walked: its regions that draw their order and hold calls: operation by operation. -/
import Derived.Test.YtbebgdjlabincaaS3
import Derived.Test.YtbebgdjlabincaaHeld
namespace Go.Proofs.Ytbebgdjlabincaa
open Go.RowKit Go.Lib

section
variable {P : Program} {ops : Array Oper} {Q : Exit → Act → World → Prop} {md : Region.Mode}
/-- Operation p alone may come up, and writes: behind it B holds anew. -/
theorem until_write {B T : World → Prop} {p : Nat} {o : Oper} {fuel : Nat} {listed : Array Bool} {a : Act} {w : World} (hr : Region.ready md ops listed = [p]) (ho : ops[p]? = some o) (hp : (listed.setIfInBounds p true).getD p true = true)
    (h : ∀ K' : Act → World → Prop, Shut (∀ a w, B w → (B w → wpAnyH P md ops Q B fuel (listed.setIfInBounds p true) a w) → K' a w) → if Region.wanted o (yielded ops a.tmps) = true then Oper.wp P o a w K' Q else K' (a.put o.dst undef) w) :
    wpAnyL P md ops Q (Until B T p) (fuel + 1) listed a w := by
  refine until_ready hr (by simp) fun j hj => ?_
  obtain rfl : j = p := by simpa using hj
  exact wpOp_step ho (fun K' hK => h K' (fun a w hB hW => hK a w ⟨⟨hB, fun h0 => by rw [hp] at h0; cases h0⟩, until_end fuel _ _ _ hp (hW hB)⟩))
end

/-- What holds while its last region draws. -/
structure Box (w : World) (k : UInt8) (d : List UInt8) (W : World) : Prop where
  c0 : W.cell? ⟨w.heap.size, 0, none⟩ = some (.int .u8 k.toNat)
  c1 : W.cell? ⟨w.heap.size, 1, none⟩ = some (.string (bs d))
  size : w.heap.size + 1 ≤ W.heap.size
  below : Below w.heap.size w W
theorem Box.on {w W W' : World} {k : UInt8} {d : List UInt8} (h : Box w k d W) (b : Below W.heap.size W W') : Box w k d W' :=
  ⟨by rw [b.cell (p := ⟨w.heap.size, 0, none⟩) h.size, h.c0], by rw [b.cell (p := ⟨w.heap.size, 1, none⟩) h.size, h.c1], Nat.le_trans h.size b.size, below_step h.below b⟩

/-- What holds while the statement's first region draws. -/
structure Ahead (w : World) (k : UInt8) (W : World) : Prop where
  c0 : W.cell? ⟨w.heap.size, 0, none⟩ = some (.int .u8 k.toNat)
  size : w.heap.size + 1 = W.heap.size
  below : Below w.heap.size w W

set_option linter.unusedSimpArgs false in
set_option maxHeartbeats 4000000 in
set_option maxRecDepth 100000 in
theorem reads_any (s t : ByteArray) (k : UInt8) (d : ByteArray) (w : World) :
    Calls Try.prog 9 #[.string s, .string t, .agg #[.int .u8 k.toNat, .string d]] w fun e w' => e = .returned (.bool true) ∧ Below w.heap.size w w' := by
  have hk := k.toNat_lt
  obtain ⟨S, hS, hS300⟩ := cut_list s 300
  obtain ⟨T, hT, hT100⟩ := cut_list t 100
  obtain ⟨D, hD, hD100⟩ := cut_list d 100
  have HS := Lib.hid hS; have HT := Lib.hid hT; have HD := Lib.hid hD; clear hS hT hD
  have hc0 : (w.alloc (.cells #[.int .u8 k.toNat, .string d] 57)).drew.cell? ⟨w.heap.size, 0, none⟩ = some (.int .u8 k.toNat) := by
    rw [show (w.alloc (.cells #[.int .u8 k.toNat, .string d] 57)).drew.cell? ⟨w.heap.size, 0, none⟩ = (w.alloc (.cells #[.int .u8 k.toNat, .string d] 57)).cell? ⟨w.heap.size, 0, none⟩ from rfl, cell_of_row _ _ 0 _ _ _ (heap_alloc_new w _)]; rfl
  have hc1 : (w.alloc (.cells #[.int .u8 k.toNat, .string d] 57)).drew.cell? ⟨w.heap.size, 1, none⟩ = some (.string d) := by
    rw [show (w.alloc (.cells #[.int .u8 k.toNat, .string d] 57)).drew.cell? ⟨w.heap.size, 1, none⟩ = (w.alloc (.cells #[.int .u8 k.toNat, .string d] 57)).cell? ⟨w.heap.size, 1, none⟩ from rfl, cell_of_row _ _ 1 _ _ _ (heap_alloc_new w _)]; rfl
  have hS0 : Ahead w k (w.alloc (.cells #[.int .u8 k.toNat, .string d] 57)).drew := ⟨hc0, by simp, ((Below.refl _ _).alloc (Nat.le_refl _) _).drew⟩
  have hS1 : Ahead w k (w.alloc (.cells #[.int .u8 k.toNat, .string (bs D)] 57)).drew := by
    refine ⟨?_, by simp, ((Below.refl _ _).alloc (Nat.le_refl _) _).drew⟩
    rw [show (w.alloc (.cells #[.int .u8 k.toNat, .string (bs D)] 57)).drew.cell? ⟨w.heap.size, 0, none⟩ = (w.alloc (.cells #[.int .u8 k.toNat, .string (bs D)] 57)).cell? ⟨w.heap.size, 0, none⟩ from rfl, cell_of_row _ _ 0 _ _ _ (heap_alloc_new w _)]; rfl
  obtain ⟨kk, dd, rest, er, hn⟩ : ∃ kk dd rest er, Fr.next S = ((kk, dd), rest, er) := ⟨_, _, _, _, rfl⟩
  have HN := Lib.hid (show nextV (Fr.next S) = .tuple #[.agg #[.int .u8 kk.toNat, .string (bs dd)], .string (bs rest), .int .i64 er] by rw [hn]; rfl)
  clear hn
  obtain ⟨RS, L, hall⟩ : ∃ RS L, Fr.all S = (RS, L) := ⟨_, _, rfl⟩
  have AL := Lib.hid (fun W => show Calls Try.prog 33 #[.string (bs S)] W (Alld W RS ((S.length : Int) - L.length)) by have := all_any S W (by omega); rw [hall] at this; exact this)
  have AR := Lib.hid (fun W => show Calls Try.prog 34 #[.string (bs S)] W (Alld W RS ((S.length : Int) - L.length)) by have := r2all_any S W (by omega); rw [hall] at this; exact this)
  clear hall
  obtain ⟨R, hR⟩ : ∃ R, R = Fr.rec k D := ⟨_, rfl⟩
  obtain ⟨x, hx⟩ : ∃ x, x = Crc.sum T := ⟨_, rfl⟩
  obtain ⟨y, hy⟩ : ∃ y, y = Crc.sum S := ⟨_, rfl⟩
  obtain ⟨z, hz⟩ : ∃ z, z = Crc.sum (S ++ T) := ⟨_, rfl⟩
  have hyz : Crc.more y T = z := by rw [hy, hz, Crc.sum_append]
  have C1 := Lib.hid (fun W => show Calls Try.prog 36 #[.slice none 0 0, .agg #[.int .u8 k.toNat, .string (bs D)]] W (fun e w' => ∃ v', e = .returned v' ∧ Sl w' W.heap.size 1 v' R.length (cb R) ∧ Below W.heap.size W w') by
    refine (append_any W.heap.size none 0 0 [] k D W (Sl.nil _ _ _) (by omega)).mono fun e w' ⟨a, cap, he, hs, hb⟩ => ?_
    rw [List.nil_append, ← hR] at he hs
    exact ⟨_, he, hs, hb⟩)
  have C2 := Lib.hid (fun W => show Calls Try.prog 37 #[.agg #[.int .u8 k.toNat, .string (bs D)]] W (fun e w' => e = .returned (.string (bs R)) ∧ Below W.heap.size W w') by rw [hR]; exact r2bytes_any k D W (by omega))
  have hm : ∀ X : List UInt8, X.length ≤ 400 → (bs X).size ≤ maxLen := fun X hX => by rw [bs_size]; unfold maxLen; omega
  have C3 := Lib.hid (fun W => show Calls Try.prog 38 #[.string (bs T)] W (fun e w' => e = .returned (.int .u32 (x : Nat)) ∧ W = w') by rw [hx]; exact fsum_bs T W (hm T (by omega)))
  have C4 := Lib.hid (fun W => show Calls Try.prog 39 #[.string (bs T)] W (fun e w' => e = .returned (.int .u32 (x : Nat)) ∧ Below W.heap.size W w') by rw [hx]; exact r2sum_any T W (by unfold maxLen; omega))
  have C5 := Lib.hid (fun W => show Calls Try.prog 38 #[.string (bs S)] W (fun e w' => e = .returned (.int .u32 (y : Nat)) ∧ W = w') by rw [hy]; exact fsum_bs S W (hm S (by omega)))
  have C6 := Lib.hid (fun W => show Calls Try.prog 40 #[.int .u32 (y : Nat), .string (bs T)] W (fun e w' => e = .returned (.int .u32 (z : Nat)) ∧ W = w') by rw [← hyz]; exact fmore_bs y T W (by rw [hy]; exact Crc.sum_lt _) (hm T (by omega)))
  have C7 := Lib.hid (fun W => show Calls Try.prog 39 #[.string (bs (S ++ T))] W (fun e w' => e = .returned (.int .u32 (z : Nat)) ∧ Below W.heap.size W w') by rw [hz]; exact r2sum_any (S ++ T) W (by unfold maxLen; rw [List.length_append]; omega))
  clear hR hx hy hz hyz hm
  have hA := bs_append
  have n1 : ¬ 9223372036854775807 < (bs S).size + (bs T).size := by rw [bs_size, bs_size]; omega
  go_enter Try.func9, Try.ntmps9
  go_wp2
  refine wp_region_held_drew (S := Ahead w k) (by kernel_rfl) hS0 (fun hH => ?_)
  clear hS0
  refine wpAnyH_take (i := 0) (oi := ⟨some 18, _, _, _, _, _⟩) (v := ?_) rfl (by kernel_rfl) (by kernel_rfl) (by kernel_rfl) (fun _ _ _ h => h) (Or.inl ⟨by rfl, ?_⟩) hH ?_
  rotate_left
  · intro W hSw; (try dsimp only at hSw); go_simp; try with_reducible rfl
  try simp only [Act.put, List.setIfInBounds_toArray, List.set_cons_zero, List.set_cons_succ]
  refine wpAnyH_take (i := 2) (oi := ⟨some 20, _, _, _, _, _⟩) (v := ?_) rfl (by kernel_rfl) (by kernel_rfl) (by kernel_rfl) (fun _ _ _ h => h) (Or.inl ⟨by rfl, ?_⟩) hH ?_
  rotate_left
  · intro W hSw; (try dsimp only at hSw); go_simp; try with_reducible rfl
  try simp only [Act.put, List.setIfInBounds_toArray, List.set_cons_zero, List.set_cons_succ]
  refine wpAnyH_take (i := 4) (oi := ⟨some 22, _, _, _, _, _⟩) (v := ?_) rfl (by kernel_rfl) (by kernel_rfl) (by kernel_rfl) (fun _ _ _ h => h) (Or.inl ⟨by rfl, ?_⟩) hH ?_
  rotate_left
  · intro W hSw; (try dsimp only at hSw); go_simp; try with_reducible rfl
  try simp only [Act.put, List.setIfInBounds_toArray, List.set_cons_zero, List.set_cons_succ]
  refine until_begin (T := fun W => W.cell? ⟨w.heap.size, 1, none⟩ = some (.string d)) 10 ?_
  have hU := fun (L : Array Bool) => (show Until (Ahead w k) (fun W => W.cell? ⟨w.heap.size, 1, none⟩ = some (.string d)) 10 L _ from ⟨hH, fun _ => hc1⟩)
  refine until_take' (i := 5) (oi := ⟨some 23, _, _, _, _, _⟩) (v := ?_) rfl (by kernel_rfl) (by kernel_rfl) (by kernel_rfl) (fun _ _ _ h => h) (by decide) (by kernel_rfl) (by kernel_rfl) (Or.inl ⟨by rfl, ?_⟩) (hU _) ?_
  rotate_left
  · intro W hSw; have c := hSw.2; (try dsimp only at hSw); go_simp; try with_reducible rfl
  try simp only [Act.put, List.setIfInBounds_toArray, List.set_cons_zero, List.set_cons_succ]
  refine until_call (i := 1) (o := ⟨some 19, _, _, _, _, _⟩) (by kernel_rfl) rfl (fun K hK => ?_)
  go_simp
  refine (cut_is s S 300 300 rfl HS.out _).mono ?_
  rintro e w1 ⟨rfl, rfl⟩
  go_wp2_with fail
  refine hK.out _ _ hH hc1 (fun hB hT1 => ?_)
  clear hK K
  try simp only [Act.put, List.setIfInBounds_toArray, List.set_cons_zero, List.set_cons_succ]
  clear hB hT1
  refine until_call (i := 3) (o := ⟨some 21, _, _, _, _, _⟩) (by kernel_rfl) rfl (fun K hK => ?_)
  go_simp
  refine (cut_is t T 100 100 rfl HT.out _).mono ?_
  rintro e w1 ⟨rfl, rfl⟩
  go_wp2_with fail
  refine hK.out _ _ hH hc1 (fun hB hT1 => ?_)
  clear hK K
  try simp only [Act.put, List.setIfInBounds_toArray, List.set_cons_zero, List.set_cons_succ]
  clear hB hT1
  refine until_call (i := 6) (o := ⟨some 24, _, _, _, _, _⟩) (by kernel_rfl) rfl (fun K hK => ?_)
  go_simp
  refine (cut_is d D 100 100 rfl HD.out _).mono ?_
  rintro e w1 ⟨rfl, rfl⟩
  go_wp2_with fail
  refine hK.out _ _ hH hc1 (fun hB hT1 => ?_)
  clear hK K
  try simp only [Act.put, List.setIfInBounds_toArray, List.set_cons_zero, List.set_cons_succ]
  clear hB hT1
  refine until_take (i := 7) (oi := ⟨some 0, _, _, _, _, _⟩) (v := ?_) rfl (by kernel_rfl) (by kernel_rfl) (by kernel_rfl) (fun _ _ _ h => h) (by decide) (Or.inl ⟨by rfl, ?_⟩) (hU _) ?_
  rotate_left
  · intro W hSw; (try dsimp only at hSw); go_simp; try with_reducible rfl
  try simp only [Act.put, List.setIfInBounds_toArray, List.set_cons_zero, List.set_cons_succ]
  refine until_take (i := 8) (oi := ⟨some 1, _, _, _, _, _⟩) (v := ?_) rfl (by kernel_rfl) (by kernel_rfl) (by kernel_rfl) (fun _ _ _ h => h) (by decide) (Or.inl ⟨by rfl, ?_⟩) (hU _) ?_
  rotate_left
  · intro W hSw; (try dsimp only at hSw); go_simp; try with_reducible rfl
  try simp only [Act.put, List.setIfInBounds_toArray, List.set_cons_zero, List.set_cons_succ]
  refine until_take (i := 9) (oi := ⟨some 25, _, _, _, _, _⟩) (v := ?_) rfl (by kernel_rfl) (by kernel_rfl) (by kernel_rfl) (fun _ _ _ h => h) (by decide) (Or.inl ⟨by rfl, ?_⟩) (hU _) ?_
  rotate_left
  · intro W hSw; (try dsimp only at hSw); go_simp; try with_reducible rfl
  try simp only [Act.put, List.setIfInBounds_toArray, List.set_cons_zero, List.set_cons_succ]
  refine until_write (o := ⟨none, _, _, _, _, _⟩) (by kernel_rfl) rfl (by kernel_rfl) (fun K hK => ?_)
  go_simp
  refine hK.out _ _ hS1 (fun hH2 => ?_)
  clear hK K hU hc0 hc1 hS1
  refine wpAnyH_done (by kernel_rfl) ?_ _
  clear hH hH2
  go_wp2_with fail
  refine (next_any S _ (by omega)).mono ?_
  rintro e w2 ⟨rfl, b2⟩
  rw [HN.out]
  have B2 : Below (w.heap.size + 1) (w.alloc (.cells #[.int .u8 k.toNat, .string (bs D)] 57)) w2 := (Below.refl _ _).drew.trans (b2.mono (by simp))
  clear b2
  have g2 := B2.size
  simp only [World.size_alloc] at g2
  go_wp2_with fail
  refine (r2next_any S _ (by omega)).mono ?_
  rintro e w3 ⟨rfl, b3⟩
  rw [HN.out]
  have A3 : Below (w2.heap.size + 1) (w2.alloc (.cells #[.int .u8 kk.toNat, .string (bs dd)] 57)) w3 := b3.mono (by simp)
  have B3 : Below (w.heap.size + 1) (w.alloc (.cells #[.int .u8 k.toNat, .string (bs D)] 57)) w3 := (B2.alloc g2 _).trans (b3.mono (by simp; omega))
  clear b3
  have g3 := A3.size
  simp only [World.size_alloc] at g3
  go_wp2_with fail
  refine (AL.out _).mono ?_
  intro e w4 h4
  obtain ⟨a4, k4, rfl, s4, b4⟩ := alld_slice h4
  clear h4
  have A4 : Below (w3.heap.size + 1) (w3.alloc (.cells #[.int .u8 kk.toNat, .string (bs dd)] 60)) w4 := b4.mono (by simp)
  have B4 : Below (w.heap.size + 1) (w.alloc (.cells #[.int .u8 k.toNat, .string (bs D)] 57)) w4 := (B3.alloc (by omega) _).trans (b4.mono (by simp; omega))
  have C4 : Below (w2.heap.size + 1) (w2.alloc (.cells #[.int .u8 kk.toNat, .string (bs dd)] 57)) w4 := (A3.alloc (by omega) _).trans (b4.mono (by simp; omega))
  clear b4
  have g4 := A4.size
  simp only [World.size_alloc] at g4
  go_wp2_with fail
  refine (AR.out _).mono ?_
  intro e w5 h5
  obtain ⟨a5, k5, rfl, s5, b5⟩ := alld_slice h5
  clear h5
  have u5 := s4.on b5
  have A5 := A4.trans (b5.mono (by omega))
  have B5 := B4.trans (b5.mono (by omega))
  have C5 := C4.trans (b5.mono (by omega))
  clear s4 A4 B4 C4 A3 B3 B2
  have g5 := b5.size
  go_wp2_with fail
  refine (fawake_any _).mono ?_
  rintro e w6 ⟨rfl, b6⟩
  have x6 := s5.on b6
  have y6 := u5.on b6
  have A6 := A5.trans (b6.mono (by omega))
  have B6 := B5.trans (b6.mono (by omega))
  have C6 := C5.trans (b6.mono (by omega))
  clear s5 u5 A5 B5 C5
  have g6 := b6.size
  obtain ⟨p0, p1⟩ := box_at A6
  obtain ⟨q0, q1⟩ := box_at C6
  obtain ⟨r0, r1⟩ := box_at B6
  clear b5 b6
  go_wp2_with fail
  clear p0 p1 q0 q1 A6 C6 HN
  go_loopw [79] (fun i' wr => ∃ (q m : Nat), i' = .int .i64 q ∧ q ≤ RS.length ∧ wr = w6.drewN m) (fun i' _ => RS.length - (intOf i').toNat)
  case atStart => exact ⟨0, 0, rfl, Nat.zero_le _, rfl⟩
  case round =>
    obtain ⟨q, m, rfl, hq, rfl⟩ := hrel
    by_cases hlt : q < RS.length
    · obtain ⟨z, zd, hkd⟩ : ∃ z zd, RS[q]? = some (z, zd) := ⟨_, _, List.getElem?_eq_getElem hlt⟩
      obtain ⟨g1, o1, ha, hmx⟩ : ∃ g off, a4 = some ⟨g, off, none⟩ ∧ RS.length ≤ maxLen := by
        rcases y6.2 with ⟨_, h0⟩ | ⟨g, off, cap', he, _, _, hnc, hcm, _⟩
        · omega
        · cases he; exact ⟨g, off, rfl, Nat.le_trans hnc hcm⟩
      unfold maxLen at hmx
      obtain ⟨g2, o2, hb⟩ : ∃ g off, a5 = some ⟨g, off, none⟩ := by
        rcases x6.2 with ⟨_, h0⟩ | ⟨g, off, cap', he, _⟩
        · omega
        · cases he; exact ⟨g, off, rfl⟩
      subst ha; subst hb
      obtain ⟨p0, p1⟩ := sl_recs y6 q z zd hkd
      obtain ⟨q0, q1⟩ := sl_recs x6 q z zd hkd
      have i1 : (q : Int) < (RS.length : Int) := by omega
      have i2 : (0 : Int) ≤ (q : Int) := by omega
      clear hkd
      go_wp2
      go_quiet (fail)
      go_wp2
      exact ⟨⟨q + 1, _, by go_num, by omega, rfl⟩, by simp [intOf]; omega⟩
    · have hkn : q = RS.length := by omega
      subst hkn
      clear x6 y6 r0 r1
      have B7 := (below_draw B6 m).drew
      obtain ⟨r0, r1⟩ := box_at B7
      have hS2 : Box w k D (w6.drewN m).drew := ⟨r0, r1, by have := B7.size; simpa using this, ((Below.refl w.heap.size w).alloc (Nat.le_refl _) (.cells #[.int .u8 k.toNat, .string (bs D)] 57)).trans (B7.mono (by omega))⟩
      clear r0 r1 B6 B7 hlt hq
      go_wp2_with fail
      as_aux_lemma =>
        refine wp_region_held_drew (S := Box w k D) (by kernel_rfl) hS2 (fun hH => ?_)
        clear hS2
        refine wpAnyH_take (i := 0) (oi := ⟨some 92, _, _, _, _, _⟩) (v := ?_) rfl (by kernel_rfl) (by kernel_rfl) (by kernel_rfl) (fun _ _ _ h => h) (Or.inl ⟨by rfl, ?_⟩) hH ?_
        rotate_left
        · intro W hSw; have c := hSw.c0; have c' := hSw.c1; (try dsimp only at hSw); go_simp; try with_reducible rfl
        try simp only [Act.put, List.setIfInBounds_toArray, List.set_cons_zero, List.set_cons_succ]
        refine wpAnyH_take (i := 3) (oi := ⟨some 95, _, _, _, _, _⟩) (v := ?_) rfl (by kernel_rfl) (by kernel_rfl) (by kernel_rfl) (fun _ _ _ h => h) (Or.inl ⟨by rfl, ?_⟩) hH ?_
        rotate_left
        · intro W hSw; have c := hSw.c0; have c' := hSw.c1; (try dsimp only at hSw); go_simp; try with_reducible rfl
        try simp only [Act.put, List.setIfInBounds_toArray, List.set_cons_zero, List.set_cons_succ]
        refine wpAnyH_ready (rs := [1]) (by kernel_rfl) (by simp) ?_
        refine AllReadyH.cons (o := ⟨some 93, _, _, _, _, _⟩) rfl (fun K hK => ?_) AllReadyH.nil
        go_simp
        refine (C1.out _).mono ?_
        rintro e wa ⟨va, rfl, qa, ba⟩
        go_wp2_with fail
        refine hK.out _ _ (hH.on ba) (fun hH => ?_)
        clear hK K
        try simp only [Act.put, List.setIfInBounds_toArray, List.set_cons_zero, List.set_cons_succ]
        obtain ⟨BASE, qa⟩ : ∃ BASE, Sl wa BASE 1 va R.length (cb R) := ⟨_, qa⟩
        refine until_begin (T := (fun W => Sl W BASE 1 va R.length (cb R))) 5 ?_
        have hU := fun (L : Array Bool) => (show Until (Box w k D) (fun W => Sl W BASE 1 va R.length (cb R)) 5 L _ from ⟨hH, fun _ => qa⟩)
        refine until_take' (i := 2) (oi := ⟨some 94, _, _, _, _, _⟩) (v := ?_) rfl (by kernel_rfl) (by kernel_rfl) (by kernel_rfl) (fun _ _ _ h => h) (by decide) (by kernel_rfl) (by kernel_rfl) (Or.inl ⟨by rfl, ?_⟩) (hU _) ?_
        rotate_left
        · intro W hSw; have c := text_conv hSw.2; (try dsimp only at hSw); go_simp; try with_reducible rfl
        try simp only [Act.put, List.setIfInBounds_toArray, List.set_cons_zero, List.set_cons_succ]
        refine until_call (i := 4) (o := ⟨some 96, _, _, _, _, _⟩) (by kernel_rfl) rfl (fun K hK => ?_)
        go_simp
        refine (C2.out _).mono ?_
        rintro e wb ⟨rfl, bb⟩
        go_wp2_with fail
        refine hK.out _ _ (hH.on bb) (qa.on bb) (fun hB hT1 => ?_)
        clear hK K
        try simp only [Act.put, List.setIfInBounds_toArray, List.set_cons_zero, List.set_cons_succ]
        refine until_last (o := ⟨some 97, _, _, _, _, _⟩) (v := ?_) (by kernel_rfl) rfl (by kernel_rfl) (Or.inl ⟨by rfl, ?_⟩) hB ?_
        rotate_left
        · intro W hSw; go_simp; try with_reducible rfl
        try simp only [Act.put, List.setIfInBounds_toArray, List.set_cons_zero, List.set_cons_succ]
        replace hH := hB
        clear hB hT1 hU qa
        refine wpAnyH_take (i := 6) (oi := ⟨some 98, _, _, _, _, _⟩) (v := ?_) rfl (by kernel_rfl) (by kernel_rfl) (by kernel_rfl) (fun _ _ _ h => h) (Or.inl ⟨by rfl, ?_⟩) hH ?_
        rotate_left
        · intro W hSw; (try dsimp only at hSw); go_simp; try with_reducible rfl
        try simp only [Act.put, List.setIfInBounds_toArray, List.set_cons_zero, List.set_cons_succ]
        refine wpAnyH_take (i := 7) (oi := ⟨some 99, _, _, _, _, _⟩) (v := ?_) rfl (by kernel_rfl) (by kernel_rfl) (by kernel_rfl) (fun _ _ _ h => h) (Or.inl ⟨by rfl, ?_⟩) hH ?_
        rotate_left
        · intro W hSw; (try dsimp only at hSw); go_simp; try with_reducible rfl
        try simp only [Act.put, List.setIfInBounds_toArray, List.set_cons_zero, List.set_cons_succ]
        refine wpAnyH_take (i := 9) (oi := ⟨some 101, _, _, _, _, _⟩) (v := ?_) rfl (by kernel_rfl) (by kernel_rfl) (by kernel_rfl) (fun _ _ _ h => h) (Or.inl ⟨by rfl, ?_⟩) hH ?_
        rotate_left
        · intro W hSw; (try dsimp only at hSw); go_simp; try with_reducible rfl
        try simp only [Act.put, List.setIfInBounds_toArray, List.set_cons_zero, List.set_cons_succ]
        refine wpAnyH_ready (rs := [8]) (by kernel_rfl) (by simp) ?_
        refine AllReadyH.cons (o := ⟨some 100, _, _, _, _, _⟩) rfl (fun K hK => ?_) AllReadyH.nil
        go_simp
        refine (C3.out _).mono ?_
        rintro e wc ⟨rfl, rfl⟩
        go_wp2_with fail
        refine hK.out _ _ hH (fun hH => ?_)
        clear hK K
        try simp only [Act.put, List.setIfInBounds_toArray, List.set_cons_zero, List.set_cons_succ]
        refine wpAnyH_ready (rs := [10]) (by kernel_rfl) (by simp) ?_
        refine AllReadyH.cons (o := ⟨some 102, _, _, _, _, _⟩) rfl (fun K hK => ?_) AllReadyH.nil
        go_simp
        refine (C4.out _).mono ?_
        rintro e wd ⟨rfl, bd⟩
        go_wp2_with fail
        refine hK.out _ _ (hH.on bd) (fun hH => ?_)
        clear hK K
        try simp only [Act.put, List.setIfInBounds_toArray, List.set_cons_zero, List.set_cons_succ]
        refine wpAnyH_take (i := 11) (oi := ⟨some 103, _, _, _, _, _⟩) (v := ?_) rfl (by kernel_rfl) (by kernel_rfl) (by kernel_rfl) (fun _ _ _ h => h) (Or.inl ⟨by rfl, ?_⟩) hH ?_
        rotate_left
        · intro W hSw; (try dsimp only at hSw); go_simp; try with_reducible rfl
        try simp only [Act.put, List.setIfInBounds_toArray, List.set_cons_zero, List.set_cons_succ]
        refine wpAnyH_take (i := 12) (oi := ⟨some 104, _, _, _, _, _⟩) (v := ?_) rfl (by kernel_rfl) (by kernel_rfl) (by kernel_rfl) (fun _ _ _ h => h) (Or.inl ⟨by rfl, ?_⟩) hH ?_
        rotate_left
        · intro W hSw; (try dsimp only at hSw); go_simp; try with_reducible rfl
        try simp only [Act.put, List.setIfInBounds_toArray, List.set_cons_zero, List.set_cons_succ]
        refine wpAnyH_take (i := 13) (oi := ⟨some 105, _, _, _, _, _⟩) (v := ?_) rfl (by kernel_rfl) (by kernel_rfl) (by kernel_rfl) (fun _ _ _ h => h) (Or.inl ⟨by rfl, ?_⟩) hH ?_
        rotate_left
        · intro W hSw; (try dsimp only at hSw); go_simp; try with_reducible rfl
        try simp only [Act.put, List.setIfInBounds_toArray, List.set_cons_zero, List.set_cons_succ]
        refine wpAnyH_take (i := 14) (oi := ⟨some 106, _, _, _, _, _⟩) (v := ?_) rfl (by kernel_rfl) (by kernel_rfl) (by kernel_rfl) (fun _ _ _ h => h) (Or.inl ⟨by rfl, ?_⟩) hH ?_
        rotate_left
        · intro W hSw; (try dsimp only at hSw); go_simp; try with_reducible rfl
        try simp only [Act.put, List.setIfInBounds_toArray, List.set_cons_zero, List.set_cons_succ]
        refine wpAnyH_take (i := 16) (oi := ⟨some 108, _, _, _, _, _⟩) (v := ?_) rfl (by kernel_rfl) (by kernel_rfl) (by kernel_rfl) (fun _ _ _ h => h) (Or.inl ⟨by rfl, ?_⟩) hH ?_
        rotate_left
        · intro W hSw; (try dsimp only at hSw); go_simp; try with_reducible rfl
        try simp only [Act.put, List.setIfInBounds_toArray, List.set_cons_zero, List.set_cons_succ]
        refine wpAnyH_take (i := 18) (oi := ⟨some 110, _, _, _, _, _⟩) (v := ?_) rfl (by kernel_rfl) (by kernel_rfl) (by kernel_rfl) (fun _ _ _ h => h) (Or.inl ⟨by rfl, ?_⟩) hH ?_
        rotate_left
        · intro W hSw; (try dsimp only at hSw); go_simp; try with_reducible rfl
        try simp only [Act.put, List.setIfInBounds_toArray, List.set_cons_zero, List.set_cons_succ]
        refine wpAnyH_take (i := 19) (oi := ⟨some 111, _, _, _, _, _⟩) (v := ?_) rfl (by kernel_rfl) (by kernel_rfl) (by kernel_rfl) (fun _ _ _ h => h) (Or.inl ⟨by rfl, ?_⟩) hH ?_
        rotate_left
        · intro W hSw; (try dsimp only at hSw); go_simp; try with_reducible rfl
        try simp only [Act.put, List.setIfInBounds_toArray, List.set_cons_zero, List.set_cons_succ]
        refine wpAnyH_take (i := 20) (oi := ⟨some 112, _, _, _, _, _⟩) (v := ?_) rfl (by kernel_rfl) (by kernel_rfl) (by kernel_rfl) (fun _ _ _ h => h) (Or.inl ⟨by rfl, ?_⟩) hH ?_
        rotate_left
        · intro W hSw; (try dsimp only at hSw); go_simp; try with_reducible rfl
        try simp only [Act.put, List.setIfInBounds_toArray, List.set_cons_zero, List.set_cons_succ]
        refine wpAnyH_ready (rs := [15]) (by kernel_rfl) (by simp) ?_
        refine AllReadyH.cons (o := ⟨some 107, _, _, _, _, _⟩) rfl (fun K hK => ?_) AllReadyH.nil
        go_simp
        refine (C5.out _).mono ?_
        rintro e we ⟨rfl, rfl⟩
        go_wp2_with fail
        refine hK.out _ _ hH (fun hH => ?_)
        clear hK K
        try simp only [Act.put, List.setIfInBounds_toArray, List.set_cons_zero, List.set_cons_succ]
        refine wpAnyH_ready (rs := [17]) (by kernel_rfl) (by simp) ?_
        refine AllReadyH.cons (o := ⟨some 109, _, _, _, _, _⟩) rfl (fun K hK => ?_) AllReadyH.nil
        go_simp
        refine (C6.out _).mono ?_
        rintro e wf ⟨rfl, rfl⟩
        go_wp2_with fail
        refine hK.out _ _ hH (fun hH => ?_)
        clear hK K
        try simp only [Act.put, List.setIfInBounds_toArray, List.set_cons_zero, List.set_cons_succ]
        refine wpAnyH_ready (rs := [21]) (by kernel_rfl) (by simp) ?_
        refine AllReadyH.cons (o := ⟨some 113, _, _, _, _, _⟩) rfl (fun K hK => ?_) AllReadyH.nil
        go_simp
        refine (C7.out _).mono ?_
        rintro e wg ⟨rfl, bg⟩
        go_wp2_with fail
        refine hK.out _ _ (hH.on bg) (fun hH => ?_)
        clear hK K
        try simp only [Act.put, List.setIfInBounds_toArray, List.set_cons_zero, List.set_cons_succ]
        refine wpAnyH_take (i := 22) (oi := ⟨some 114, _, _, _, _, _⟩) (v := ?_) rfl (by kernel_rfl) (by kernel_rfl) (by kernel_rfl) (fun _ _ _ h => h) (Or.inl ⟨by rfl, ?_⟩) hH ?_
        rotate_left
        · intro W hSw; (try dsimp only at hSw); go_simp; try with_reducible rfl
        try simp only [Act.put, List.setIfInBounds_toArray, List.set_cons_zero, List.set_cons_succ]
        refine wpAnyH_take (i := 23) (oi := ⟨some 115, _, _, _, _, _⟩) (v := ?_) rfl (by kernel_rfl) (by kernel_rfl) (by kernel_rfl) (fun _ _ _ h => h) (Or.inl ⟨by rfl, ?_⟩) hH ?_
        rotate_left
        · intro W hSw; (try dsimp only at hSw); go_simp; try with_reducible rfl
        try simp only [Act.put, List.setIfInBounds_toArray, List.set_cons_zero, List.set_cons_succ]
        refine wpAnyH_take (i := 24) (oi := ⟨some 6, _, _, _, _, _⟩) (v := ?_) rfl (by kernel_rfl) (by kernel_rfl) (by kernel_rfl) (fun _ _ _ h => h) (Or.inl ⟨by rfl, ?_⟩) hH ?_
        rotate_left
        · intro W hSw; (try dsimp only at hSw); go_simp; try with_reducible rfl
        try simp only [Act.put, List.setIfInBounds_toArray, List.set_cons_zero, List.set_cons_succ]
        refine wpAnyH_done (by kernel_rfl) ?_ _
        go_wp2
        go_ret
        exact ⟨rfl, hH.below⟩
end Go.Proofs.Ytbebgdjlabincaa

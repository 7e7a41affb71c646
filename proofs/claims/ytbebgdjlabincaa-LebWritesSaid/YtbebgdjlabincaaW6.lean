/- The statement LebWrites, walked: its last test is one region that draws its order: operation by operation (Derived.Deep.RegionHeld3's laws, and this claim's own 'Until'). -/
import Derived.Test.YtbebgdjlabincaaW7
import Derived.Test.YtbebgdjlabincaaHeld
namespace Go.Proofs.Ytbebgdjlabincaa
open Go.RowKit Go.Lib

/-- What holds throughout. -/
structure Keeps (w : World) (b : Value) (t : List UInt8) (w' : World) : Prop where
  sl : Sl w' w.heap.size 1 b t.length (cb t)
  below : Below w.heap.size w w'
theorem Keeps.drew {w w' : World} {b : Value} {t : List UInt8} (h : Keeps w b t w') : Keeps w b t w'.drew := ⟨h.sl.drew, h.below.drew⟩
theorem Keeps.on {w w1 w2 : World} {b : Value} {t : List UInt8} (h : Keeps w b t w1) (k : Below w1.heap.size w1 w2) : Keeps w b t w2 := ⟨h.sl.on k, below_step h.below k⟩
/-- The slice, longer by xs, and the old one. -/
theorem on_keeps {w w1 w2 : World} {b : Value} {t xs : List UInt8} {e : Ending} (h : Keeps w b t w1) (k : Wrote w.heap.size w1 b t.length (cb t) xs e w2) : ∃ v', e = .returned v' ∧ Sl w2 w.heap.size 1 v' (t.length + xs.length) (cb (t ++ xs)) ∧ Keeps w b t w2 := by
  obtain ⟨v', rfl, hx⟩ := k
  exact ⟨v', rfl, by rw [cb_append]; exact hx.now, hx.old, h.below.trans (hx.below (Nat.le_refl _) h.below.size)⟩

theorem text_bs (base : Nat) (b : Value) (n : Nat) (l : List Value) (s : List UInt8) (w : World) (hs : n + (bs s).size ≤ 140737488355000) (hown : Sl w base 1 b n l) (hb : base ≤ w.heap.size) :
    Calls Try.prog 20 #[b, .string (bs s)] w (Wrote base w b n l (Leb.encT s)) := text_any base b n l (bs s) w hs hown hb
theorem rtext_bs (s : List UInt8) (w : World) (hs : (bs s).size ≤ 140737488355000) :
    Calls Try.prog 21 #[.string (bs s)] w fun e w' => e = .returned (.string (bs (Leb.encT s))) ∧ Below w.heap.size w w' := rtext_any (bs s) w hs

set_option linter.unusedSimpArgs false in
set_option maxHeartbeats 4000000 in
set_option maxRecDepth 100000 in
theorem writes_any (u : Nat) (v : Int) (s ahead : ByteArray) (w : World) (hu : u < 18446744073709551616) (h0 : -9223372036854775808 ≤ v) (h1 : v ≤ 9223372036854775807) :
    Calls Try.prog 3 #[.int .u64 u, .int .i64 v, .string s, .string ahead] w fun e w' => e = .returned (.bool true) ∧ Below w.heap.size w w' := by
  have hT := bs_toList
  have hA := bs_append
  obtain ⟨l, hl, hl200⟩ := cut_list s 200
  obtain ⟨t, ht, ht50⟩ := cut_list ahead 50
  have HL := Lib.hid hl; have HT := Lib.hid ht; clear hl ht
  obtain ⟨b, W, hcv, hsl, hW⟩ := bytes_conv w t (by unfold maxLen; omega)
  have hz : t.length + (bs l).size ≤ 140737488355000 := by rw [bs_size]; omega
  have hz' : (bs l).size ≤ 140737488355000 := by omega
  have y0 := bs_size_le t 50 ht50
  have y1 := bs_size_le (Leb.encU u) 10 (Leb.encU_len u).2
  have y2 := bs_size_le (Leb.encU (Leb.foldN v)) 10 (Leb.encU_len _).2
  have y3 := bs_size_le (Leb.encT l) 210 (by have := Leb.encU_len l.length; simp only [Leb.encT, List.length_append]; omega)
  have n1 : ¬ 9223372036854775807 < (bs t).size + (bs (Leb.encU u)).size := by omega
  have n2 : ¬ 9223372036854775807 < (bs t).size + (bs (Leb.encU (Leb.foldN v))).size := by omega
  have n3 : ¬ 9223372036854775807 < (bs t).size + (bs (Leb.encT l)).size := by omega
  have hS' := (show Keeps w b t W from ⟨hsl, hW⟩).drew
  go_enter Try.func3, Try.ntmps3
  go_wp2_with fail
  refine (cut_is s l 200 200 rfl HL.out _).mono ?_
  rintro e w1 ⟨rfl, rfl⟩
  go_wp2_with fail
  refine (cut_is ahead t 50 50 rfl HT.out _).mono ?_
  rintro e w1 ⟨rfl, rfl⟩
  go_wp2_with fail
  clear hcv HL HT hl200 ht50 hsl hW
  refine wp_region_held_drew (S := Keeps w b t) (by kernel_rfl) hS' (fun hH => ?_)
  clear hS'
  refine wpAnyH_ready (rs := [0]) (by kernel_rfl) (by simp) ?_
  refine AllReadyH.cons (o := ⟨some 16, _, _, _, _, _⟩) rfl (fun K hK => ?_) AllReadyH.nil
  go_simp
  refine (awake_any _).mono ?_
  rintro e w1 ⟨rfl, b1⟩
  go_wp2_with fail
  refine hK.out _ _ (hH.on b1) (fun hH => ?_)
  clear hK K
  try simp only [Act.put, List.setIfInBounds_toArray, List.set_cons_zero, List.set_cons_succ]
  refine wpAnyH_take (i := 1) (oi := ⟨some 17, _, _, _, _, _⟩) (v := ?_) rfl (by kernel_rfl) (by kernel_rfl) (by kernel_rfl) (fun _ _ _ h => h) (Or.inl ⟨by rfl, ?_⟩) hH ?_
  rotate_left
  · intro W hSw; (try dsimp only at hSw); go_simp; try with_reducible rfl
  try simp only [Act.put, List.setIfInBounds_toArray, List.set_cons_zero, List.set_cons_succ]
  refine wpAnyH_take (i := 2) (oi := ⟨some 18, _, _, _, _, _⟩) (v := ?_) rfl (by kernel_rfl) (by kernel_rfl) (by kernel_rfl) (fun _ _ _ h => h) (Or.inl ⟨by rfl, ?_⟩) hH ?_
  rotate_left
  · intro W hSw; (try dsimp only at hSw); go_simp; try with_reducible rfl
  try simp only [Act.put, List.setIfInBounds_toArray, List.set_cons_zero, List.set_cons_succ]
  refine wpAnyH_take (i := 3) (oi := ⟨some 19, _, _, _, _, _⟩) (v := ?_) rfl (by kernel_rfl) (by kernel_rfl) (by kernel_rfl) (fun _ _ _ h => h) (Or.inl ⟨by rfl, ?_⟩) hH ?_
  rotate_left
  · intro W hSw; (try dsimp only at hSw); go_simp; try with_reducible rfl
  try simp only [Act.put, List.setIfInBounds_toArray, List.set_cons_zero, List.set_cons_succ]
  refine wpAnyH_take (i := 6) (oi := ⟨some 22, _, _, _, _, _⟩) (v := ?_) rfl (by kernel_rfl) (by kernel_rfl) (by kernel_rfl) (fun _ _ _ h => h) (Or.inl ⟨by rfl, ?_⟩) hH ?_
  rotate_left
  · intro W hSw; (try dsimp only at hSw); go_simp; try with_reducible rfl
  try simp only [Act.put, List.setIfInBounds_toArray, List.set_cons_zero, List.set_cons_succ]
  refine wpAnyH_take (i := 7) (oi := ⟨some 23, _, _, _, _, _⟩) (v := ?_) rfl (by kernel_rfl) (by kernel_rfl) (by kernel_rfl) (fun _ _ _ h => h) (Or.inl ⟨by rfl, ?_⟩) hH ?_
  rotate_left
  · intro W hSw; (try dsimp only at hSw); go_simp; try with_reducible rfl
  try simp only [Act.put, List.setIfInBounds_toArray, List.set_cons_zero, List.set_cons_succ]
  refine wpAnyH_ready (rs := [4]) (by kernel_rfl) (by simp) ?_
  refine AllReadyH.cons (o := ⟨some 20, _, _, _, _, _⟩) rfl (fun K hK => ?_) AllReadyH.nil
  go_simp
  refine (uint_any w.heap.size b _ _ u _ hu hH.sl (by omega) hH.below.size).mono ?_
  intro e wa ha
  obtain ⟨va, rfl, qa, ka⟩ := on_keeps hH ha
  go_wp2_with fail
  refine hK.out _ _ ka (fun hH => ?_)
  clear hK K
  try simp only [Act.put, List.setIfInBounds_toArray, List.set_cons_zero, List.set_cons_succ]
  refine until_begin (T := fun W => Sl W w.heap.size 1 va (t.length + (Leb.encU u).length) (cb (t ++ Leb.encU u))) 10 ?_
  have hU := fun (L : Array Bool) => (show Until (Keeps w b t) (fun W => Sl W w.heap.size 1 va (t.length + (Leb.encU u).length) (cb (t ++ Leb.encU u))) 10 L _ from ⟨hH, fun _ => qa⟩)
  refine until_take' (i := 5) (oi := ⟨some 21, _, _, _, _, _⟩) (v := ?_) rfl (by kernel_rfl) (by kernel_rfl) (by kernel_rfl) (fun _ _ _ h => h) (by decide) (by kernel_rfl) (by kernel_rfl) (Or.inl ⟨by rfl, ?_⟩) (hU _) ?_
  rotate_left
  · intro W hSw; have c := text_conv hSw.2; (try dsimp only at hSw); go_simp; try with_reducible rfl
  try simp only [Act.put, List.setIfInBounds_toArray, List.set_cons_zero, List.set_cons_succ]
  refine until_call (i := 8) (o := ⟨some 24, _, _, _, _, _⟩) (by kernel_rfl) rfl (fun K hK => ?_)
  go_simp
  refine (ruint_any u _ hu).mono ?_
  rintro e wa' ⟨rfl, ba⟩
  go_wp2_with fail
  refine hK.out _ _ (hH.on ba) (qa.on ba) (fun hB hT1 => ?_)
  clear hK K
  try simp only [Act.put, List.setIfInBounds_toArray, List.set_cons_zero, List.set_cons_succ]
  clear hU
  have hU := fun (L : Array Bool) => (show Until (Keeps w b t) (fun W => Sl W w.heap.size 1 va (t.length + (Leb.encU u).length) (cb (t ++ Leb.encU u))) 10 L _ from ⟨hB, fun _ => hT1⟩)
  refine until_take (i := 9) (oi := ⟨some 25, _, _, _, _, _⟩) (v := ?_) rfl (by kernel_rfl) (by kernel_rfl) (by kernel_rfl) (fun _ _ _ h => h) (by decide) (Or.inl ⟨by rfl, ?_⟩) (hU _) ?_
  rotate_left
  · intro W hSw; (try dsimp only at hSw); go_simp; try with_reducible rfl
  try simp only [Act.put, List.setIfInBounds_toArray, List.set_cons_zero, List.set_cons_succ]
  refine until_last (o := ⟨some 26, _, _, _, _, _⟩) (v := ?_) (by kernel_rfl) rfl (by kernel_rfl) (Or.inl ⟨by rfl, ?_⟩) hB ?_
  rotate_left
  · intro W hSw; go_simp; try with_reducible rfl
  try simp only [Act.put, List.setIfInBounds_toArray, List.set_cons_zero, List.set_cons_succ]
  replace hH := hB
  clear hB hT1 hU
  refine wpAnyH_take (i := 11) (oi := ⟨some 27, _, _, _, _, _⟩) (v := ?_) rfl (by kernel_rfl) (by kernel_rfl) (by kernel_rfl) (fun _ _ _ h => h) (Or.inl ⟨by rfl, ?_⟩) hH ?_
  rotate_left
  · intro W hSw; (try dsimp only at hSw); go_simp; try with_reducible rfl
  try simp only [Act.put, List.setIfInBounds_toArray, List.set_cons_zero, List.set_cons_succ]
  refine wpAnyH_take (i := 12) (oi := ⟨some 28, _, _, _, _, _⟩) (v := ?_) rfl (by kernel_rfl) (by kernel_rfl) (by kernel_rfl) (fun _ _ _ h => h) (Or.inl ⟨by rfl, ?_⟩) hH ?_
  rotate_left
  · intro W hSw; (try dsimp only at hSw); go_simp; try with_reducible rfl
  try simp only [Act.put, List.setIfInBounds_toArray, List.set_cons_zero, List.set_cons_succ]
  refine wpAnyH_take (i := 13) (oi := ⟨some 29, _, _, _, _, _⟩) (v := ?_) rfl (by kernel_rfl) (by kernel_rfl) (by kernel_rfl) (fun _ _ _ h => h) (Or.inl ⟨by rfl, ?_⟩) hH ?_
  rotate_left
  · intro W hSw; (try dsimp only at hSw); go_simp; try with_reducible rfl
  try simp only [Act.put, List.setIfInBounds_toArray, List.set_cons_zero, List.set_cons_succ]
  refine wpAnyH_take (i := 14) (oi := ⟨some 30, _, _, _, _, _⟩) (v := ?_) rfl (by kernel_rfl) (by kernel_rfl) (by kernel_rfl) (fun _ _ _ h => h) (Or.inl ⟨by rfl, ?_⟩) hH ?_
  rotate_left
  · intro W hSw; (try dsimp only at hSw); go_simp; try with_reducible rfl
  try simp only [Act.put, List.setIfInBounds_toArray, List.set_cons_zero, List.set_cons_succ]
  refine wpAnyH_take (i := 17) (oi := ⟨some 33, _, _, _, _, _⟩) (v := ?_) rfl (by kernel_rfl) (by kernel_rfl) (by kernel_rfl) (fun _ _ _ h => h) (Or.inl ⟨by rfl, ?_⟩) hH ?_
  rotate_left
  · intro W hSw; (try dsimp only at hSw); go_simp; try with_reducible rfl
  try simp only [Act.put, List.setIfInBounds_toArray, List.set_cons_zero, List.set_cons_succ]
  refine wpAnyH_take (i := 18) (oi := ⟨some 34, _, _, _, _, _⟩) (v := ?_) rfl (by kernel_rfl) (by kernel_rfl) (by kernel_rfl) (fun _ _ _ h => h) (Or.inl ⟨by rfl, ?_⟩) hH ?_
  rotate_left
  · intro W hSw; (try dsimp only at hSw); go_simp; try with_reducible rfl
  try simp only [Act.put, List.setIfInBounds_toArray, List.set_cons_zero, List.set_cons_succ]
  refine wpAnyH_ready (rs := [15]) (by kernel_rfl) (by simp) ?_
  refine AllReadyH.cons (o := ⟨some 31, _, _, _, _, _⟩) rfl (fun K hK => ?_) AllReadyH.nil
  go_simp
  refine (int_any w.heap.size b _ _ v _ h0 h1 hH.sl (by omega) hH.below.size).mono ?_
  intro e wb hb
  obtain ⟨vb, rfl, qb, kb⟩ := on_keeps hH hb
  go_wp2_with fail
  refine hK.out _ _ kb (fun hH => ?_)
  clear hK K
  try simp only [Act.put, List.setIfInBounds_toArray, List.set_cons_zero, List.set_cons_succ]
  refine until_begin (T := fun W => Sl W w.heap.size 1 vb (t.length + (Leb.encU (Leb.foldN v)).length) (cb (t ++ Leb.encU (Leb.foldN v)))) 21 ?_
  have hU := fun (L : Array Bool) => (show Until (Keeps w b t) (fun W => Sl W w.heap.size 1 vb (t.length + (Leb.encU (Leb.foldN v)).length) (cb (t ++ Leb.encU (Leb.foldN v)))) 21 L _ from ⟨hH, fun _ => qb⟩)
  refine until_take' (i := 16) (oi := ⟨some 32, _, _, _, _, _⟩) (v := ?_) rfl (by kernel_rfl) (by kernel_rfl) (by kernel_rfl) (fun _ _ _ h => h) (by decide) (by kernel_rfl) (by kernel_rfl) (Or.inl ⟨by rfl, ?_⟩) (hU _) ?_
  rotate_left
  · intro W hSw; have c := text_conv hSw.2; (try dsimp only at hSw); go_simp; try with_reducible rfl
  try simp only [Act.put, List.setIfInBounds_toArray, List.set_cons_zero, List.set_cons_succ]
  refine until_call (i := 19) (o := ⟨some 35, _, _, _, _, _⟩) (by kernel_rfl) rfl (fun K hK => ?_)
  go_simp
  refine (rint_any v _ h0 h1).mono ?_
  rintro e wb' ⟨rfl, bb⟩
  go_wp2_with fail
  refine hK.out _ _ (hH.on bb) (qb.on bb) (fun hB hT1 => ?_)
  clear hK K
  try simp only [Act.put, List.setIfInBounds_toArray, List.set_cons_zero, List.set_cons_succ]
  clear hU
  have hU := fun (L : Array Bool) => (show Until (Keeps w b t) (fun W => Sl W w.heap.size 1 vb (t.length + (Leb.encU (Leb.foldN v)).length) (cb (t ++ Leb.encU (Leb.foldN v)))) 21 L _ from ⟨hB, fun _ => hT1⟩)
  refine until_take (i := 20) (oi := ⟨some 36, _, _, _, _, _⟩) (v := ?_) rfl (by kernel_rfl) (by kernel_rfl) (by kernel_rfl) (fun _ _ _ h => h) (by decide) (Or.inl ⟨by rfl, ?_⟩) (hU _) ?_
  rotate_left
  · intro W hSw; (try dsimp only at hSw); go_simp; try with_reducible rfl
  try simp only [Act.put, List.setIfInBounds_toArray, List.set_cons_zero, List.set_cons_succ]
  refine until_last (o := ⟨some 37, _, _, _, _, _⟩) (v := ?_) (by kernel_rfl) rfl (by kernel_rfl) (Or.inl ⟨by rfl, ?_⟩) hB ?_
  rotate_left
  · intro W hSw; go_simp; try with_reducible rfl
  try simp only [Act.put, List.setIfInBounds_toArray, List.set_cons_zero, List.set_cons_succ]
  replace hH := hB
  clear hB hT1 hU
  refine wpAnyH_take (i := 22) (oi := ⟨some 38, _, _, _, _, _⟩) (v := ?_) rfl (by kernel_rfl) (by kernel_rfl) (by kernel_rfl) (fun _ _ _ h => h) (Or.inl ⟨by rfl, ?_⟩) hH ?_
  rotate_left
  · intro W hSw; (try dsimp only at hSw); go_simp; try with_reducible rfl
  try simp only [Act.put, List.setIfInBounds_toArray, List.set_cons_zero, List.set_cons_succ]
  refine wpAnyH_take (i := 23) (oi := ⟨some 39, _, _, _, _, _⟩) (v := ?_) rfl (by kernel_rfl) (by kernel_rfl) (by kernel_rfl) (fun _ _ _ h => h) (Or.inl ⟨by rfl, ?_⟩) hH ?_
  rotate_left
  · intro W hSw; (try dsimp only at hSw); go_simp; try with_reducible rfl
  try simp only [Act.put, List.setIfInBounds_toArray, List.set_cons_zero, List.set_cons_succ]
  refine wpAnyH_take (i := 24) (oi := ⟨some 40, _, _, _, _, _⟩) (v := ?_) rfl (by kernel_rfl) (by kernel_rfl) (by kernel_rfl) (fun _ _ _ h => h) (Or.inl ⟨by rfl, ?_⟩) hH ?_
  rotate_left
  · intro W hSw; (try dsimp only at hSw); go_simp; try with_reducible rfl
  try simp only [Act.put, List.setIfInBounds_toArray, List.set_cons_zero, List.set_cons_succ]
  refine wpAnyH_take (i := 25) (oi := ⟨some 41, _, _, _, _, _⟩) (v := ?_) rfl (by kernel_rfl) (by kernel_rfl) (by kernel_rfl) (fun _ _ _ h => h) (Or.inl ⟨by rfl, ?_⟩) hH ?_
  rotate_left
  · intro W hSw; (try dsimp only at hSw); go_simp; try with_reducible rfl
  try simp only [Act.put, List.setIfInBounds_toArray, List.set_cons_zero, List.set_cons_succ]
  refine wpAnyH_take (i := 28) (oi := ⟨some 44, _, _, _, _, _⟩) (v := ?_) rfl (by kernel_rfl) (by kernel_rfl) (by kernel_rfl) (fun _ _ _ h => h) (Or.inl ⟨by rfl, ?_⟩) hH ?_
  rotate_left
  · intro W hSw; (try dsimp only at hSw); go_simp; try with_reducible rfl
  try simp only [Act.put, List.setIfInBounds_toArray, List.set_cons_zero, List.set_cons_succ]
  refine wpAnyH_take (i := 29) (oi := ⟨some 45, _, _, _, _, _⟩) (v := ?_) rfl (by kernel_rfl) (by kernel_rfl) (by kernel_rfl) (fun _ _ _ h => h) (Or.inl ⟨by rfl, ?_⟩) hH ?_
  rotate_left
  · intro W hSw; (try dsimp only at hSw); go_simp; try with_reducible rfl
  try simp only [Act.put, List.setIfInBounds_toArray, List.set_cons_zero, List.set_cons_succ]
  refine wpAnyH_ready (rs := [26]) (by kernel_rfl) (by simp) ?_
  refine AllReadyH.cons (o := ⟨some 42, _, _, _, _, _⟩) rfl (fun K hK => ?_) AllReadyH.nil
  go_simp
  refine (text_bs w.heap.size b _ _ l _ hz hH.sl hH.below.size).mono ?_
  intro e wc hc
  obtain ⟨vc, rfl, qc, kc⟩ := on_keeps hH hc
  go_wp2_with fail
  refine hK.out _ _ kc (fun hH => ?_)
  clear hK K
  try simp only [Act.put, List.setIfInBounds_toArray, List.set_cons_zero, List.set_cons_succ]
  refine until_begin (T := fun W => Sl W w.heap.size 1 vc (t.length + (Leb.encT l).length) (cb (t ++ Leb.encT l))) 32 ?_
  have hU := fun (L : Array Bool) => (show Until (Keeps w b t) (fun W => Sl W w.heap.size 1 vc (t.length + (Leb.encT l).length) (cb (t ++ Leb.encT l))) 32 L _ from ⟨hH, fun _ => qc⟩)
  refine until_take' (i := 27) (oi := ⟨some 43, _, _, _, _, _⟩) (v := ?_) rfl (by kernel_rfl) (by kernel_rfl) (by kernel_rfl) (fun _ _ _ h => h) (by decide) (by kernel_rfl) (by kernel_rfl) (Or.inl ⟨by rfl, ?_⟩) (hU _) ?_
  rotate_left
  · intro W hSw; have c := text_conv hSw.2; (try dsimp only at hSw); go_simp; try with_reducible rfl
  try simp only [Act.put, List.setIfInBounds_toArray, List.set_cons_zero, List.set_cons_succ]
  refine until_call (i := 30) (o := ⟨some 46, _, _, _, _, _⟩) (by kernel_rfl) rfl (fun K hK => ?_)
  go_simp
  refine (rtext_bs l _ hz').mono ?_
  rintro e wc' ⟨rfl, bc⟩
  go_wp2_with fail
  refine hK.out _ _ (hH.on bc) (qc.on bc) (fun hB hT1 => ?_)
  clear hK K
  try simp only [Act.put, List.setIfInBounds_toArray, List.set_cons_zero, List.set_cons_succ]
  clear hU
  have hU := fun (L : Array Bool) => (show Until (Keeps w b t) (fun W => Sl W w.heap.size 1 vc (t.length + (Leb.encT l).length) (cb (t ++ Leb.encT l))) 32 L _ from ⟨hB, fun _ => hT1⟩)
  refine until_take (i := 31) (oi := ⟨some 47, _, _, _, _, _⟩) (v := ?_) rfl (by kernel_rfl) (by kernel_rfl) (by kernel_rfl) (fun _ _ _ h => h) (by decide) (Or.inl ⟨by rfl, ?_⟩) (hU _) ?_
  rotate_left
  · intro W hSw; (try dsimp only at hSw); go_simp; try with_reducible rfl
  try simp only [Act.put, List.setIfInBounds_toArray, List.set_cons_zero, List.set_cons_succ]
  refine until_last (o := ⟨some 48, _, _, _, _, _⟩) (v := ?_) (by kernel_rfl) rfl (by kernel_rfl) (Or.inl ⟨by rfl, ?_⟩) hB ?_
  rotate_left
  · intro W hSw; go_simp; try with_reducible rfl
  try simp only [Act.put, List.setIfInBounds_toArray, List.set_cons_zero, List.set_cons_succ]
  replace hH := hB
  clear hB hT1 hU
  refine wpAnyH_take (i := 33) (oi := ⟨some 49, _, _, _, _, _⟩) (v := ?_) rfl (by kernel_rfl) (by kernel_rfl) (by kernel_rfl) (fun _ _ _ h => h) (Or.inl ⟨by rfl, ?_⟩) hH ?_
  rotate_left
  · intro W hSw; (try dsimp only at hSw); go_simp; try with_reducible rfl
  try simp only [Act.put, List.setIfInBounds_toArray, List.set_cons_zero, List.set_cons_succ]
  refine wpAnyH_take (i := 34) (oi := ⟨some 50, _, _, _, _, _⟩) (v := ?_) rfl (by kernel_rfl) (by kernel_rfl) (by kernel_rfl) (fun _ _ _ h => h) (Or.inl ⟨by rfl, ?_⟩) hH ?_
  rotate_left
  · intro W hSw; (try dsimp only at hSw); go_simp; try with_reducible rfl
  try simp only [Act.put, List.setIfInBounds_toArray, List.set_cons_zero, List.set_cons_succ]
  refine wpAnyH_take (i := 35) (oi := ⟨some 51, _, _, _, _, _⟩) (v := ?_) rfl (by kernel_rfl) (by kernel_rfl) (by kernel_rfl) (fun _ _ _ h => h) (Or.inl ⟨by rfl, ?_⟩) hH ?_
  rotate_left
  · intro W hSw; (try dsimp only at hSw); go_simp; try with_reducible rfl
  try simp only [Act.put, List.setIfInBounds_toArray, List.set_cons_zero, List.set_cons_succ]
  refine wpAnyH_take (i := 36) (oi := ⟨some 52, _, _, _, _, _⟩) (v := ?_) rfl (by kernel_rfl) (by kernel_rfl) (by kernel_rfl) (fun _ _ _ h => h) (Or.inl ⟨by rfl, ?_⟩) hH ?_
  rotate_left
  · intro W hSw; have c := text_conv hSw.sl; (try dsimp only at hSw); go_simp; try with_reducible rfl
  try simp only [Act.put, List.setIfInBounds_toArray, List.set_cons_zero, List.set_cons_succ]
  refine wpAnyH_take (i := 37) (oi := ⟨some 53, _, _, _, _, _⟩) (v := ?_) rfl (by kernel_rfl) (by kernel_rfl) (by kernel_rfl) (fun _ _ _ h => h) (Or.inl ⟨by rfl, ?_⟩) hH ?_
  rotate_left
  · intro W hSw; (try dsimp only at hSw); go_simp; try with_reducible rfl
  try simp only [Act.put, List.setIfInBounds_toArray, List.set_cons_zero, List.set_cons_succ]
  refine wpAnyH_take (i := 38) (oi := ⟨some 54, _, _, _, _, _⟩) (v := ?_) rfl (by kernel_rfl) (by kernel_rfl) (by kernel_rfl) (fun _ _ _ h => h) (Or.inl ⟨by rfl, ?_⟩) hH ?_
  rotate_left
  · intro W hSw; (try dsimp only at hSw); go_simp; try with_reducible rfl
  try simp only [Act.put, List.setIfInBounds_toArray, List.set_cons_zero, List.set_cons_succ]
  refine wpAnyH_take (i := 39) (oi := ⟨some 55, _, _, _, _, _⟩) (v := ?_) rfl (by kernel_rfl) (by kernel_rfl) (by kernel_rfl) (fun _ _ _ h => h) (Or.inl ⟨by rfl, ?_⟩) hH ?_
  rotate_left
  · intro W hSw; (try dsimp only at hSw); go_simp; try with_reducible rfl
  try simp only [Act.put, List.setIfInBounds_toArray, List.set_cons_zero, List.set_cons_succ]
  refine wpAnyH_take (i := 40) (oi := ⟨some 8, _, _, _, _, _⟩) (v := ?_) rfl (by kernel_rfl) (by kernel_rfl) (by kernel_rfl) (fun _ _ _ h => h) (Or.inl ⟨by rfl, ?_⟩) hH ?_
  rotate_left
  · intro W hSw; (try dsimp only at hSw); go_simp; try with_reducible rfl
  try simp only [Act.put, List.setIfInBounds_toArray, List.set_cons_zero, List.set_cons_succ]
  refine wpAnyH_done (by kernel_rfl) ?_ _
  go_wp2
  go_ret
  exact ⟨rfl, hH.below⟩
end Go.Proofs.Ytbebgdjlabincaa

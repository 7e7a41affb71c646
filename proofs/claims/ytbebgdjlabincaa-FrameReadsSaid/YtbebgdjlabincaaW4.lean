/- The statements of layer 1, walked. -/
import Derived.Test.YtbebgdjlabincaaW3
namespace Go.Proofs.Ytbebgdjlabincaa
open Go.RowKit Go.Lib

theorem enc_ne {a b : Nat} (ha : a < Leb.two64) (hb : b < Leb.two64) (h : a ≠ b) : (Leb.encU a == Leb.encU b) = false := by
  rw [beq_eq_false_iff_ne]
  exact fun e => h (Leb.enc_inj a b ha hb e)

theorem short_lt (a b : Nat) (w : World) (ha : a < 18446744073709551616) (hb : b < 18446744073709551616) (h : a < b) :
    Calls Try.prog 7 #[.int .u64 a, .int .u64 b] w fun e w' => e = .returned (.bool true) ∧ Below w.heap.size w w' := by
  have hT := bs_toList
  have hne := enc_ne (a := a) (b := b) (by assumption) (by assumption) (by omega)
  have h1 := (Leb.encU_len b).2
  have h3 : (Leb.encU a).length ≤ (Leb.encU b).length := Leb.enc_mono 9 a b (by omega)
  have hnb : ((a : Int) != (b : Int)) = true := by simp; omega
  go_enter Try.func7, Try.ntmps7
  go_wp2_with fail
  refine (uint_new a a _ _ rfl rfl rfl _ (by assumption)).mono ?_
  rintro e w1 ⟨a1, k1, rfl, s1, b1⟩
  go_wp2_with fail
  refine (uint_new b b _ _ rfl rfl rfl _ (by assumption)).mono ?_
  rintro e w2 ⟨a2, k2, rfl, s2, b2⟩
  go_wp2_with fail
  refine (awake_any _).mono ?_
  rintro e w3 ⟨rfl, b3⟩
  have c1 := text_conv ((s1.on b2).on b3)
  have c2 := text_conv (s2.on b3)
  go_wp2
  go_ret
  exact ⟨rfl, below_step (below_step b1 b2) b3⟩
theorem short_gt (a b : Nat) (w : World) (ha : a < 18446744073709551616) (hb : b < 18446744073709551616) (h : b < a) :
    Calls Try.prog 7 #[.int .u64 a, .int .u64 b] w fun e w' => e = .returned (.bool true) ∧ Below w.heap.size w w' := by
  have hT := bs_toList
  have hne := enc_ne (a := b) (b := a) (by assumption) (by assumption) (by omega)
  have h1 := (Leb.encU_len a).2
  have h3 : (Leb.encU b).length ≤ (Leb.encU a).length := Leb.enc_mono 9 b a (by omega)
  have hnb : ((a : Int) != (b : Int)) = true := by simp; omega
  go_enter Try.func7, Try.ntmps7
  go_wp2_with fail
  refine (uint_new b b _ _ rfl rfl rfl _ (by assumption)).mono ?_
  rintro e w1 ⟨a1, k1, rfl, s1, b1⟩
  go_wp2_with fail
  refine (uint_new a a _ _ rfl rfl rfl _ (by assumption)).mono ?_
  rintro e w2 ⟨a2, k2, rfl, s2, b2⟩
  go_wp2_with fail
  refine (awake_any _).mono ?_
  rintro e w3 ⟨rfl, b3⟩
  have c1 := text_conv ((s1.on b2).on b3)
  have c2 := text_conv (s2.on b3)
  go_wp2
  go_ret
  exact ⟨rfl, below_step (below_step b1 b2) b3⟩
theorem short_eq (a : Nat) (w : World) (ha : a < 18446744073709551616) :
    Calls Try.prog 7 #[.int .u64 a, .int .u64 a] w fun e w' => e = .returned (.bool true) ∧ Below w.heap.size w w' := by
  have hT := bs_toList
  have h1 := (Leb.encU_len a).2
  go_enter Try.func7, Try.ntmps7
  go_wp2_with fail
  refine (uint_new a a _ _ rfl rfl rfl _ (by assumption)).mono ?_
  rintro e w1 ⟨a1, k1, rfl, s1, b1⟩
  go_wp2_with fail
  refine (uint_new a a _ _ rfl rfl rfl _ (by assumption)).mono ?_
  rintro e w2 ⟨a2, k2, rfl, s2, b2⟩
  go_wp2_with fail
  refine (awake_any _).mono ?_
  rintro e w3 ⟨rfl, b3⟩
  have c1 := text_conv ((s1.on b2).on b3)
  have c2 := text_conv (s2.on b3)
  go_wp2
  go_ret
  exact ⟨rfl, below_step (below_step b1 b2) b3⟩

theorem short_any (a b : Nat) (w : World) (ha : a < 18446744073709551616) (hb : b < 18446744073709551616) :
    Calls Try.prog 7 #[.int .u64 a, .int .u64 b] w fun e w' => e = .returned (.bool true) ∧ Below w.heap.size w w' := by
  rcases Nat.lt_trichotomy a b with h | h | h
  · exact short_lt a b w ha hb h
  · subst h; exact short_eq a w ha
  · exact short_gt a b w ha hb h

theorem cut_is (s : ByteArray) (l : List UInt8) (n : Int) (m : Nat) (hn : n = m) (hl : cutB s m = bs l) (w : World) :
    Calls Try.prog 14 #[.string s, .int .i64 n] w fun e w' => e = .returned (.string (bs l)) ∧ w = w' := by
  subst hn
  have := cut_any s m w (by omega)
  rw [Int.toNat_natCast, hl] at this
  exact this
theorem cut_list (s : ByteArray) (m : Nat) : ∃ l, cutB s m = bs l ∧ l.length ≤ m := by
  refine ⟨(cutB s m).data.toList, (bs_of _).symm, ?_⟩
  have h : (cutB s m).data.toList.length = (cutB s m).size := by rw [Array.length_toList]; rfl
  rw [h]
  unfold cutB
  split
  · rw [ByteArray.size_extract]; omega
  · omega

theorem one_any (s : ByteArray) (w : World) :
    Calls Try.prog 6 #[.string s] w fun e w' => e = .returned (.bool true) ∧ Below w.heap.size w w' := by
  have hT := bs_toList
  have hA := bs_append
  obtain ⟨l, hl, hl50⟩ := cut_list s 50
  have HL := Lib.hid hl; clear hl
  obtain ⟨u, r, er, hU⟩ : ∃ u r er, Leb.takeU (bs l).data.toList = (u, r, er) := ⟨_, _, _, rfl⟩
  obtain ⟨b1, b2, b3⟩ := Leb.takeU_small hU
  have HU := Lib.hid hU
  have hz : (bs l).size ≤ maxLen := by rw [bs_size]; unfold maxLen; omega
  by_cases he : er = 0
  · subst he
    have hI := Leb.takeI_ok hU
    have HI := Lib.hid (show tupI (Leb.takeI (bs l).data.toList) = .tuple #[.int .i64 (Leb.unfoldN u), .string (bs r), .int .i64 0] by rw [hI]; rfl)
    have ho := (Leb.takeU_one l r u hU).1
    have ho' : (Leb.encU u ++ r == l) = true := by rw [ho]; exact beq_self_eq_true l
    have hlen := (Leb.encU_len u).2
    have hr : r.length ≤ l.length := b3
    have hs1 := bs_size_le (Leb.encU u) 10 hlen
    have hs2 := bs_size_le r 50 (by omega)
    have hbd := Leb.unfold_bd u b2
    have HF := Lib.hid (show Leb.encU (Leb.foldN (Leb.unfoldN u)) = Leb.encU u by rw [Leb.fold_unfold])
    clear hU hI ho
    go_enter Try.func6, Try.ntmps6
    go_wp2_with (first
      | (go_at_call 14; refine (cut_is s l 50 50 rfl HL.out _).mono ?_; rintro e w1 ⟨rfl, rfl⟩)
      | (go_at_call 22; refine (takeU_is HU.out _ hz).mono ?_; rintro e w1 ⟨rfl, n1, rfl⟩)
      | (go_at_call 24; refine (takeI_any (bs l) _ hz).mono ?_; rintro e w2 ⟨rfl, n2, rfl⟩; rw [HI.out])
      | (go_at_call 15; refine (awake_any _).mono ?_; rintro e w3 ⟨rfl, b3⟩)
      | (go_at_call 16; refine (uint_new u u _ _ rfl rfl rfl _ b2).mono ?_; rintro e w4 ⟨a4, k4, rfl, s4, b4⟩; have c4 := text_conv s4)
      | (go_at_call 18; refine (int_new (Leb.unfoldN u) _ _ HF.out rfl _ hbd.1 hbd.2).mono ?_; rintro e w5 ⟨a5, k5, rfl, s5, b5⟩; have c5 := text_conv s5))
    go_ret
    exact ⟨rfl, below_step (below_step (below_step (below_draw (Below.refl _ _) _) b3) b4) b5⟩
  · have hI := Leb.takeI_no hU he
    have HI := Lib.hid (show tupI (Leb.takeI (bs l).data.toList) = .tuple #[.int .i64 0, .string (bs []), .int .i64 er] by rw [hI]; rfl)
    clear hU hI
    go_enter Try.func6, Try.ntmps6
    go_wp2_with (first
      | (go_at_call 14; refine (cut_is s l 50 50 rfl HL.out _).mono ?_; rintro e w1 ⟨rfl, rfl⟩)
      | (go_at_call 22; refine (takeU_is HU.out _ hz).mono ?_; rintro e w1 ⟨rfl, n1, rfl⟩)
      | (go_at_call 24; refine (takeI_any (bs l) _ hz).mono ?_; rintro e w2 ⟨rfl, n2, rfl⟩; rw [HI.out])
      | (go_at_call 15; refine (awake_any _).mono ?_; rintro e w3 ⟨rfl, b3⟩))
    go_ret
    exact ⟨rfl, below_step (below_draw (Below.refl _ _) _) b3⟩

theorem cutneg_any (u : Nat) (s : ByteArray) (cut : Int) (w : World) (hu : u < 18446744073709551616) (hc : cut < 0) :
    Calls Try.prog 8 #[.int .u64 u, .string s, .int .i64 cut] w fun e w' => e = .returned (.bool true) ∧ Below w.heap.size w w' := by
  obtain ⟨l, hl, hl50⟩ := cut_list s 100
  have HL := Lib.hid hl; clear hl
  have hz : (bs l).size ≤ 140737488355000 := by rw [bs_size]; omega
  go_enter Try.func8, Try.ntmps8
  go_wp2_with (first
    | (go_at_call 14; refine (cut_is s l 100 100 rfl HL.out _).mono ?_; rintro e w1 ⟨rfl, rfl⟩)
    | (go_at_call 16; refine (uint_new u u _ _ rfl rfl rfl _ hu).mono ?_; rintro e w4 ⟨a4, k4, rfl, s4, b4⟩)
    | (go_at_call 20; refine (text_new (bs l) _ _ rfl rfl _ hz).mono ?_; rintro e w5 ⟨a5, k5, rfl, s5, b5⟩))
  refine (awake_any _).mono ?_
  rintro e w6 ⟨rfl, b6⟩
  go_wp2_with fail
  refine (awake_any _).mono ?_
  rintro e w7 ⟨rfl, b7⟩
  go_wp2
  go_ret
  exact ⟨rfl, below_step (below_step (below_step b4 b5) b6) b7⟩

theorem cut_tt (u : Nat) (s : ByteArray) (l : List UInt8) (HL : Hid (cutB s 100 = bs l)) (hl50 : l.length ≤ 100) (c : Nat) (w : World) (hu : u < 18446744073709551616) (hc : (c : Int) ≤ 9223372036854775807) (hA : c < (Leb.encU u).length) (hB : c < (Leb.encT l).length) :
    Calls Try.prog 8 #[.int .u64 u, .string s, .int .i64 c] w fun e w' => e = .returned (.bool true) ∧ Below w.heap.size w w' := by
  have hz : (bs l).size ≤ 140737488355000 := by rw [bs_size]; omega
  have hu1 := Leb.encU_len u
  have ht1 : (Leb.encT l).length ≤ 110 := by have := Leb.encU_len l.length; simp only [Leb.encT, List.length_append]; omega
  have ht0 : 0 < (Leb.encT l).length := by have := Leb.encU_len l.length; simp only [Leb.encT, List.length_append]; omega
  have hU : Leb.takeU (bs ((Leb.encU u).take c)).data.toList = (0, [], 2) := Leb.takeU_cut u c hA
  have HU := Lib.hid hU; clear hU
  have z1 : (bs ((Leb.encU u).take c)).size ≤ maxLen := by rw [bs_size, List.length_take]; unfold maxLen; omega
  have hX : (Leb.takeT (bs ((Leb.encT l).take c)).data.toList 100).2.2 = 2 := Leb.takeT_cut l 100 c (by omega) (by unfold Leb.two64; omega) hB
  obtain ⟨x1, x2, x3, hx⟩ : ∃ x1 x2 x3, Leb.takeT (bs ((Leb.encT l).take c)).data.toList 100 = (x1, x2, x3) := ⟨_, _, _, rfl⟩
  have hx3 : x3 = 2 := by rw [hx] at hX; exact hX
  subst hx3
  have HX := Lib.hid (show tupT (Leb.takeT (bs ((Leb.encT l).take c)).data.toList 100) = .tuple #[.string (bs x1), .string (bs x2), .int .i64 2] by rw [hx]; rfl)
  clear hX hx
  have z2 : (bs ((Leb.encT l).take c)).size ≤ maxLen := by rw [bs_size, List.length_take]; unfold maxLen; omega
  go_enter Try.func8, Try.ntmps8
  go_wp2_with (first
    | (go_at_call 14; refine (cut_is s l 100 100 rfl HL.out _).mono ?_; rintro e w1 ⟨rfl, rfl⟩)
    | (go_at_call 16; refine ((uint_new u u _ _ rfl rfl rfl _ hu).mono fun _ _ => madeAt_of hu1.1).mono ?_; rintro e w4 ⟨g4, o4, k4, rfl, l4, m4, s4, b4⟩)
    | (go_at_call 20; refine ((text_new (bs l) (Leb.encT l) _ rfl rfl _ hz).mono fun _ _ => madeAt_of ht0).mono ?_; rintro e w5 ⟨g5, o5, k5, rfl, l5, m5, s5, b5⟩)
    | (go_at_call 15; refine (awake_any _).mono ?_; rintro e w6 ⟨rfl, b6⟩; unfold maxLen at m4 m5; have q4 := text_conv (((s4.on b5).on b6).cut (Nat.le_of_lt hA)); have q5 := text_conv ((s5.on b6).cut (Nat.le_of_lt hB)); have q5' := fun k => text_conv (w := w6.drewN k) ((s5.on b6).cut (Nat.le_of_lt hB)))
    | (go_at_call 22; refine (takeU_is HU.out _ z1).mono ?_; rintro e w7 ⟨rfl, n1, rfl⟩)
    | (go_at_call 28; refine (takeT_any (bs ((Leb.encT l).take c)) 100 _ z2 (by decide) (by decide)).mono ?_; rintro e w8 ⟨rfl, n2, rfl⟩; rw [HX.out]))
  go_ret
  exact ⟨rfl, below_draw (below_step (below_step b4 b5) b6) _⟩

theorem cut_tf (u : Nat) (s : ByteArray) (l : List UInt8) (HL : Hid (cutB s 100 = bs l)) (hl50 : l.length ≤ 100) (c : Nat) (w : World) (hu : u < 18446744073709551616) (hc : (c : Int) ≤ 9223372036854775807) (hA : c < (Leb.encU u).length) (hB : ¬ c < (Leb.encT l).length) :
    Calls Try.prog 8 #[.int .u64 u, .string s, .int .i64 c] w fun e w' => e = .returned (.bool true) ∧ Below w.heap.size w w' := by
  have hz : (bs l).size ≤ 140737488355000 := by rw [bs_size]; omega
  have hu1 := Leb.encU_len u
  have ht1 : (Leb.encT l).length ≤ 110 := by have := Leb.encU_len l.length; simp only [Leb.encT, List.length_append]; omega
  have ht0 : 0 < (Leb.encT l).length := by have := Leb.encU_len l.length; simp only [Leb.encT, List.length_append]; omega
  have hU : Leb.takeU (bs ((Leb.encU u).take c)).data.toList = (0, [], 2) := Leb.takeU_cut u c hA
  have HU := Lib.hid hU; clear hU
  have z1 : (bs ((Leb.encU u).take c)).size ≤ maxLen := by rw [bs_size, List.length_take]; unfold maxLen; omega
  go_enter Try.func8, Try.ntmps8
  go_wp2_with (first
    | (go_at_call 14; refine (cut_is s l 100 100 rfl HL.out _).mono ?_; rintro e w1 ⟨rfl, rfl⟩)
    | (go_at_call 16; refine ((uint_new u u _ _ rfl rfl rfl _ hu).mono fun _ _ => madeAt_of hu1.1).mono ?_; rintro e w4 ⟨g4, o4, k4, rfl, l4, m4, s4, b4⟩)
    | (go_at_call 20; refine ((text_new (bs l) (Leb.encT l) _ rfl rfl _ hz).mono fun _ _ => madeAt_of ht0).mono ?_; rintro e w5 ⟨g5, o5, k5, rfl, l5, m5, s5, b5⟩)
    | (go_at_call 15; refine (awake_any _).mono ?_; rintro e w6 ⟨rfl, b6⟩; unfold maxLen at m4 m5; have q4 := text_conv (((s4.on b5).on b6).cut (Nat.le_of_lt hA)))
    | (go_at_call 22; refine (takeU_is HU.out _ z1).mono ?_; rintro e w7 ⟨rfl, n1, rfl⟩))
  go_ret
  exact ⟨rfl, below_draw (below_step (below_step b4 b5) b6) _⟩

theorem cut_ft (u : Nat) (s : ByteArray) (l : List UInt8) (HL : Hid (cutB s 100 = bs l)) (hl50 : l.length ≤ 100) (c : Nat) (w : World) (hu : u < 18446744073709551616) (hc : (c : Int) ≤ 9223372036854775807) (hA : ¬ c < (Leb.encU u).length) (hB : c < (Leb.encT l).length) :
    Calls Try.prog 8 #[.int .u64 u, .string s, .int .i64 c] w fun e w' => e = .returned (.bool true) ∧ Below w.heap.size w w' := by
  have hz : (bs l).size ≤ 140737488355000 := by rw [bs_size]; omega
  have hu1 := Leb.encU_len u
  have ht1 : (Leb.encT l).length ≤ 110 := by have := Leb.encU_len l.length; simp only [Leb.encT, List.length_append]; omega
  have ht0 : 0 < (Leb.encT l).length := by have := Leb.encU_len l.length; simp only [Leb.encT, List.length_append]; omega
  have hX : (Leb.takeT (bs ((Leb.encT l).take c)).data.toList 100).2.2 = 2 := Leb.takeT_cut l 100 c (by omega) (by unfold Leb.two64; omega) hB
  obtain ⟨x1, x2, x3, hx⟩ : ∃ x1 x2 x3, Leb.takeT (bs ((Leb.encT l).take c)).data.toList 100 = (x1, x2, x3) := ⟨_, _, _, rfl⟩
  have hx3 : x3 = 2 := by rw [hx] at hX; exact hX
  subst hx3
  have HX := Lib.hid (show tupT (Leb.takeT (bs ((Leb.encT l).take c)).data.toList 100) = .tuple #[.string (bs x1), .string (bs x2), .int .i64 2] by rw [hx]; rfl)
  clear hX hx
  have z2 : (bs ((Leb.encT l).take c)).size ≤ maxLen := by rw [bs_size, List.length_take]; unfold maxLen; omega
  go_enter Try.func8, Try.ntmps8
  go_wp2_with (first
    | (go_at_call 14; refine (cut_is s l 100 100 rfl HL.out _).mono ?_; rintro e w1 ⟨rfl, rfl⟩)
    | (go_at_call 16; refine ((uint_new u u _ _ rfl rfl rfl _ hu).mono fun _ _ => madeAt_of hu1.1).mono ?_; rintro e w4 ⟨g4, o4, k4, rfl, l4, m4, s4, b4⟩)
    | (go_at_call 20; refine ((text_new (bs l) (Leb.encT l) _ rfl rfl _ hz).mono fun _ _ => madeAt_of ht0).mono ?_; rintro e w5 ⟨g5, o5, k5, rfl, l5, m5, s5, b5⟩)
    | (go_at_call 15; refine (awake_any _).mono ?_; rintro e w6 ⟨rfl, b6⟩; unfold maxLen at m4 m5; have q5 := text_conv ((s5.on b6).cut (Nat.le_of_lt hB)); have q5' := fun k => text_conv (w := w6.drewN k) ((s5.on b6).cut (Nat.le_of_lt hB)))
    | (go_at_call 28; refine (takeT_any (bs ((Leb.encT l).take c)) 100 _ z2 (by decide) (by decide)).mono ?_; rintro e w8 ⟨rfl, n2, rfl⟩; rw [HX.out]))
  go_ret
  exact ⟨rfl, below_draw (below_step (below_step b4 b5) b6) _⟩

theorem cut_ff (u : Nat) (s : ByteArray) (l : List UInt8) (HL : Hid (cutB s 100 = bs l)) (hl50 : l.length ≤ 100) (c : Nat) (w : World) (hu : u < 18446744073709551616) (_hc : (c : Int) ≤ 9223372036854775807) (hA : ¬ c < (Leb.encU u).length) (hB : ¬ c < (Leb.encT l).length) :
    Calls Try.prog 8 #[.int .u64 u, .string s, .int .i64 c] w fun e w' => e = .returned (.bool true) ∧ Below w.heap.size w w' := by
  have hz : (bs l).size ≤ 140737488355000 := by rw [bs_size]; omega
  have hu1 := Leb.encU_len u
  have ht1 : (Leb.encT l).length ≤ 110 := by have := Leb.encU_len l.length; simp only [Leb.encT, List.length_append]; omega
  have ht0 : 0 < (Leb.encT l).length := by have := Leb.encU_len l.length; simp only [Leb.encT, List.length_append]; omega
  go_enter Try.func8, Try.ntmps8
  go_wp2_with (first
    | (go_at_call 14; refine (cut_is s l 100 100 rfl HL.out _).mono ?_; rintro e w1 ⟨rfl, rfl⟩)
    | (go_at_call 16; refine ((uint_new u u _ _ rfl rfl rfl _ hu).mono fun _ _ => madeAt_of hu1.1).mono ?_; rintro e w4 ⟨g4, o4, k4, rfl, l4, m4, s4, b4⟩)
    | (go_at_call 20; refine ((text_new (bs l) (Leb.encT l) _ rfl rfl _ hz).mono fun _ _ => madeAt_of ht0).mono ?_; rintro e w5 ⟨g5, o5, k5, rfl, l5, m5, s5, b5⟩)
    | (go_at_call 15; refine (awake_any _).mono ?_; rintro e w6 ⟨rfl, b6⟩; unfold maxLen at m4 m5))
  go_ret
  exact ⟨rfl, below_step (below_step b4 b5) b6⟩

theorem cutl_any (u : Nat) (s : ByteArray) (cut : Int) (w : World) (hu : u < 18446744073709551616) (hc : cut ≤ 9223372036854775807) :
    Calls Try.prog 8 #[.int .u64 u, .string s, .int .i64 cut] w fun e w' => e = .returned (.bool true) ∧ Below w.heap.size w w' := by
  by_cases h : cut < 0
  · exact cutneg_any u s cut w hu h
  · obtain ⟨c, rfl⟩ := Int.eq_ofNat_of_zero_le (show 0 ≤ cut by omega)
    obtain ⟨l, hl, hl50⟩ := cut_list s 100
    by_cases hA : c < (Leb.encU u).length <;> by_cases hB : c < (Leb.encT l).length
    · exact cut_tt u s l hl hl50 c w hu hc hA hB
    · exact cut_tf u s l hl hl50 c w hu hc hA hB
    · exact cut_ft u s l hl hl50 c w hu hc hA hB
    · exact cut_ff u s l hl hl50 c w hu hc hA hB

theorem takeU_at {Y A r : List UInt8} {u : Nat} (hu : u < Leb.two64) (hA : A = Leb.encU u) (hY : Y = A ++ r) : Leb.takeU (bs Y).data.toList = (u, r, 0) := by
  subst hA; subst hY; exact Leb.takeU_enc u hu r

theorem back_any (u : Nat) (v : Int) (s tail : ByteArray) (w : World) (hu : u < 18446744073709551616) (h0 : -9223372036854775808 ≤ v) (h1 : v ≤ 9223372036854775807) :
    Calls Try.prog 5 #[.int .u64 u, .int .i64 v, .string s, .string tail] w fun e w' => e = .returned (.bool true) ∧ Below w.heap.size w w' := by
  have hT := bs_toList
  obtain ⟨l, hl, hl200⟩ := cut_list s 200
  obtain ⟨t, ht, ht50⟩ := cut_list tail 50
  have HL := Lib.hid hl; have HT := Lib.hid ht; clear hl ht
  have hz : (bs l).size ≤ 200 := by rw [bs_size]; omega
  have hlu := Leb.encU_len u
  have hlv := Leb.encU_len (Leb.foldN v)
  have hlt : (Leb.encT l).length ≤ 210 := by have := Leb.encU_len l.length; simp only [Leb.encT, List.length_append]; omega
  obtain ⟨X, hX⟩ : ∃ X, X = Leb.encU u ++ Leb.encU (Leb.foldN v) ++ Leb.encT l := ⟨_, rfl⟩
  obtain ⟨Z, hZ⟩ : ∃ Z, Z = Leb.encT l ++ t := ⟨_, rfl⟩
  obtain ⟨R, hR⟩ : ∃ R, R = Leb.encU (Leb.foldN v) ++ Z := ⟨_, rfl⟩
  obtain ⟨Y, hY⟩ : ∃ Y, Y = X ++ t := ⟨_, rfl⟩
  have hY2 : Y = Leb.encU u ++ R := by rw [hY, hX, hR, hZ]; simp
  have hxl : X.length ≤ 230 := by rw [hX]; simp only [List.length_append]; omega
  have hyl : Y.length ≤ 280 := by rw [hY]; simp only [List.length_append]; omega
  have hzl : Z.length ≤ 280 := by rw [hZ]; simp only [List.length_append]; omega
  have hrl : R.length ≤ 300 := by rw [hR]; simp only [List.length_append]; omega
  have c1 := bs_size_le X 230 hxl
  have c2 := bs_size_le t 50 ht50
  have hXY : bs X ++ bs t = bs Y := by rw [bs_append, hY]
  have HU := Lib.hid (takeU_at hu rfl hY2)
  have HI := Lib.hid (show tupI (Leb.takeI (bs R).data.toList) = .tuple #[.int .i64 v, .string (bs Z), .int .i64 0] by
    rw [Leb.takeI_ok (takeU_at (Leb.fold_lt v h0 h1) rfl hR), Leb.unfold_fold]; rfl)
  have HZ := Lib.hid (show tupT (Leb.takeT (bs Z).data.toList 200) = .tuple #[.string (bs l), .string (bs t), .int .i64 0] by
    have : Leb.takeT (bs Z).data.toList 200 = (l, t, 0) := by rw [hZ]; exact Leb.takeT_enc l t 200 (by omega) (by unfold Leb.two64; omega)
    rw [this]; rfl)
  have z1 : (bs Y).size ≤ maxLen := by rw [bs_size]; unfold maxLen; omega
  have z2 : (bs R).size ≤ maxLen := by rw [bs_size]; unfold maxLen; omega
  have z3 : (bs Z).size ≤ maxLen := by rw [bs_size]; unfold maxLen; omega
  have HX := Lib.hid hX
  clear hX hZ hR hY hY2
  go_enter Try.func5, Try.ntmps5
  go_wp2_with fail
  refine (cut_is s l 200 200 rfl HL.out _).mono ?_
  rintro e w1 ⟨rfl, rfl⟩
  go_wp2_with fail
  refine (cut_is tail t 50 50 rfl HT.out _).mono ?_
  rintro e w1 ⟨rfl, rfl⟩
  go_wp2_with fail
  refine (uint_any w.heap.size _ 0 [] u w hu (Sl.nil _ _ _) (by omega) (Nat.le_refl _)).mono ?_
  rintro e w1 ⟨v1, rfl, x1⟩
  have g1 := x1.grown.size
  go_wp2_with fail
  refine (int_any w.heap.size v1 _ _ v w1 h0 h1 x1.now (by omega) g1).mono ?_
  rintro e w2 ⟨v2, rfl, x2⟩
  have g2 := x2.grown.size
  go_wp2_with fail
  refine (text_any w.heap.size v2 _ _ (bs l) w2 (by omega) x2.now (by omega)).mono ?_
  rintro e w3 ⟨v3, rfl, x3⟩
  have q : Sl w3 w.heap.size 1 v3 X.length (cb X) := by
    have := x3.now
    have e1 : X.length = 0 + (Leb.encU u).length + (Leb.encU (Leb.foldN v)).length + (Leb.encT (bs l).data.toList).length := by
      rw [HX.out, bs_list]; simp only [List.length_append]; omega
    have e2 : cb X = [] ++ cb (Leb.encU u) ++ cb (Leb.encU (Leb.foldN v)) ++ cb (Leb.encT (bs l).data.toList) := by
      rw [HX.out, bs_list, cb_append, cb_append]; rfl
    rw [e1, e2]
    exact this
  have q3 := text_conv q
  have hb : Below w.heap.size w w3 := ((x1.trans x2).trans x3).below (Nat.le_refl _) (Nat.le_refl _)
  clear q x1 x2 x3
  go_wp2_with fail
  refine (takeU_is HU.out _ z1).mono ?_
  rintro e w4 ⟨rfl, n1, rfl⟩
  go_wp2_with fail
  refine (takeI_any (bs R) _ z2).mono ?_
  rintro e w4 ⟨rfl, n2, rfl⟩
  rw [HI.out]
  go_wp2_with fail
  refine (takeT_any (bs Z) 200 _ z3 (by decide) (by decide)).mono ?_
  rintro e w4 ⟨rfl, n3, rfl⟩
  rw [HZ.out]
  go_wp2_with fail
  refine (awake_any _).mono ?_
  rintro e w5 ⟨rfl, b5⟩
  go_wp2
  go_ret
  exact ⟨rfl, below_step (below_draw hb _) b5⟩
end Go.Proofs.Ytbebgdjlabincaa

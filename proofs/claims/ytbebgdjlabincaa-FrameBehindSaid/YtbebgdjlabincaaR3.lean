/- The statement FrameTorn, walked. -/
import Derived.Test.YtbebgdjlabincaaR2
namespace Go.Proofs.Ytbebgdjlabincaa
open Go.RowKit Go.Lib

theorem f60_mem (rs : List Fr.Rc) : ∀ r ∈ f60 rs, r.2.length ≤ 60 := by
  intro r hr
  simp only [f60, List.mem_map] at hr
  obtain ⟨x, _, rfl⟩ := hr
  simp only [List.length_take]; omega

set_option maxHeartbeats 1000000 in
set_option maxRecDepth 100000 in
theorem torn_out (ao : Option Addr) (len cap : Nat) (rs : List Fr.Rc) (cut : Int) (w : World) (hlen : len ≤ maxLen) (h : RecsAt w ao len rs) (hc : cut < 0 ∨ (0 ≤ cut ∧ ((Fr.laid (f60 rs)).length : Int) < cut)) :
    Calls Try.prog 10 #[.slice ao len cap, .int .i64 cut] w fun e w' => e = .returned (.bool true) ∧ Below w.heap.size w w' := by
  have hr6 : rs.length ≤ 6 := by have := h.1; omega
  have hlr : (f60 rs).length = rs.length := by simp [f60]
  have F1 := Lib.hid (few_any ao len cap rs w hlen h)
  have hX : (Fr.laid (f60 rs)).length = (bs (Fr.laid (f60 rs))).size := (bs_size _).symm
  have H6 := Lib.hid (show (f60 rs).length ≤ 6 by omega)
  clear h
  rcases hc with hc | ⟨hc, hc'⟩
  · clear hX hlr
    go_enter Try.func10, Try.ntmps10
    go_wp2_with fail
    refine F1.out.mono ?_
    rintro e w1 ⟨a1, k1, rfl, s1, b1⟩
    go_wp2_with fail
    refine (laid_any _ a1 k1 (f60 rs) w1 s1 (f60_mem rs) H6.out).mono ?_
    rintro e w2 ⟨a2, k2, rfl, s2, b2⟩
    go_wp2_with fail
    refine (fawake_any _).mono ?_
    rintro e w3 ⟨rfl, b3⟩
    go_wp2_with fail
    refine (fawake_any _).mono ?_
    rintro e w4 ⟨rfl, b4⟩
    go_wp2
    go_ret
    exact ⟨rfl, below_step (below_step (below_step b1 b2) b3) b4⟩
  · have hc2 : ((bs (Fr.laid (f60 rs))).size : Int) < cut := by omega
    clear hX hlr hc'
    go_enter Try.func10, Try.ntmps10
    go_wp2_with fail
    refine F1.out.mono ?_
    rintro e w1 ⟨a1, k1, rfl, s1, b1⟩
    go_wp2_with fail
    refine (laid_any _ a1 k1 (f60 rs) w1 s1 (f60_mem rs) H6.out).mono ?_
    rintro e w2 ⟨a2, k2, rfl, s2, b2⟩
    go_wp2_with fail
    refine (fawake_any _).mono ?_
    rintro e w3 ⟨rfl, b3⟩
    go_wp2_with fail
    refine (fawake_any _).mono ?_
    rintro e w4 ⟨rfl, b4⟩
    go_wp2
    go_ret
    exact ⟨rfl, below_step (below_step (below_step b1 b2) b3) b4⟩

theorem sl_ints {w : World} {base g off n cap : Nat} {f : Nat → Value} (h : Sl w base 1 (.slice (some ⟨g, off, none⟩) n cap) n ((List.range n).map f)) (j : Nat) (hj : j < n) : w.cell? ⟨g, off + j, none⟩ = some (f j) := by
  rcases h.2 with ⟨h0, _⟩ | ⟨g', off', cap', he, _, _, _, _, _, hcell⟩
  · cases h0
  · cases he
    rw [hcell j (by omega)]
    simp [hj]

/-- How far the first j records go. -/
def el (F : List Fr.Rc) (j : Nat) : Nat := (Fr.laid (F.take j)).length
theorem el_mono (F : List Fr.Rc) (i j : Nat) (h : i ≤ j) : el F i ≤ el F j := by
  unfold el
  have e : F.take i = (F.take j).take i := by rw [List.take_take, Nat.min_eq_left h]
  have e2 : F.take j = (F.take j).take i ++ (F.take j).drop i := (List.take_append_drop _ _).symm
  rw [e]
  conv => rhs; rw [e2]
  rw [Fr.laid_append, List.length_append]
  omega

theorem torn_all (F : List Fr.Rc) (hF : ∀ r ∈ F, r.2.length ≤ 60) (hF6 : F.length ≤ 6) (X : List UInt8) (hX : X = Fr.laid F) (c j : Nat) (hc : c ≤ X.length) (hj : j ≤ F.length) (h1 : el F j ≤ c) (h2 : j < F.length → c < el F (j + 1)) (W : World) :
    Calls Try.prog 33 #[.string (bs (X.take c))] W fun e w' => ∃ a cap, e = .returned (.tuple #[.slice a j cap, .int .i64 (el F j)]) ∧ Sl w' W.heap.size 2 (.slice a j cap) j (rc (F.take j)) ∧ Below W.heap.size W w' := by
  have hall : Fr.all (X.take c) = (F.take j, (X.take c).drop (el F j)) := by
    rw [hX]; exact Fr.all_cut F (fun r hr => by have := hF r hr; omega) c j hj h1 h2
  have hl : X.length ≤ 450 := by have := Fr.laid_le F hF; rw [hX]; omega
  have := all_any (X.take c) W (by rw [List.length_take]; omega)
  rw [hall] at this
  refine this.mono fun e w' h => ?_
  obtain ⟨a, cap, he, hs, hb⟩ := alld_slice h
  have hjl : (F.take j).length = j := by rw [List.length_take]; omega
  rw [hjl] at he hs
  refine ⟨a, cap, ?_, hs, hb⟩
  rw [he]
  have hn : ((X.take c).length : Int) - (((X.take c).drop (el F j)).length : Int) = (el F j : Int) := by
    rw [List.length_drop, List.length_take]; omega
  rw [hn]

set_option maxHeartbeats 2000000 in
set_option maxRecDepth 100000 in
theorem torn_in (ao : Option Addr) (len cap : Nat) (rs : List Fr.Rc) (c : Nat) (w : World) (hlen : len ≤ maxLen) (h : RecsAt w ao len rs) (hc : c ≤ (Fr.laid (f60 rs)).length) :
    Calls Try.prog 10 #[.slice ao len cap, .int .i64 c] w fun e w' => e = .returned (.bool true) ∧ Below w.heap.size w w' := by
  have hr6 : rs.length ≤ 6 := by have := h.1; omega
  have F1 := Lib.hid (few_any ao len cap rs w hlen h)
  obtain ⟨F, hF⟩ : ∃ F, F = f60 rs := ⟨_, rfl⟩
  have hm := f60_mem rs
  have hF6 : F.length ≤ 6 := by rw [hF]; simp only [f60, List.length_map]; exact hr6
  rw [← hF] at F1 hm hc
  have HM := Lib.hid hm
  obtain ⟨X, hX⟩ : ∃ X, X = Fr.laid F := ⟨_, rfl⟩
  have hXl : X.length ≤ 450 := by have := Fr.laid_le F hm; rw [hX]; omega
  have hc2 : c ≤ (bs X).size := by rw [bs_size, hX]; exact hc
  have hc3 : (bs X).size ≤ 450 := by rw [bs_size]; exact hXl
  rw [← hX] at hc
  have HX := Lib.hid hX
  have HT := Lib.hid (bs_take X c)
  clear h hF hm hX hr6
  go_enter Try.func10, Try.ntmps10
  go_wp2_with fail
  refine F1.out.mono ?_
  rintro e w1 ⟨a1, k1, rfl, s1, b1⟩
  go_wp2_with fail
  refine (laid_any _ a1 k1 F w1 s1 HM.out hF6).mono ?_
  rintro e w2 ⟨a2, k2, rfl, s2, b2⟩
  rw [← HX.out]
  go_wp2_with fail
  refine (fawake_any _).mono ?_
  rintro e w3 ⟨rfl, b3⟩
  have t2 := s2.on b3
  have hbel := below_step (below_step b1 b2) b3
  go_wp2_with fail
  go_loop [7, 8, 35] (fun j' e' k' => ∃ (k j : Nat), k' = .int .i64 k ∧ k ≤ F.length ∧ j' = .int .i64 j ∧ j ≤ k ∧ e' = .int .i64 (el F j) ∧ el F j ≤ c ∧ Hid (j < k → c < el F (j + 1))) (fun _ _ k' => F.length - (intOf k').toNat)
  case atStart => exact ⟨0, 0, rfl, Nat.zero_le _, rfl, Nat.le_refl _, rfl, Nat.zero_le _, fun h => absurd h (Nat.lt_irrefl 0)⟩
  case round =>
    obtain ⟨k, j, rfl, hk, rfl, hj, rfl, he, hh⟩ := hrel
    by_cases hlt : k < F.length
    · obtain ⟨g2, o2, ha2⟩ : ∃ g off, a2 = some ⟨g, off, none⟩ := by
        rcases t2.2 with ⟨_, h0⟩ | ⟨g, off, cap', he, _⟩
        · omega
        · cases he; exact ⟨g, off, rfl⟩
      subst ha2
      have p0 : w3.cell? ⟨g2, o2 + k, none⟩ = some (.int .i64 (el F (k + 1))) := sl_ints t2 k hlt
      have hmono := el_mono F (j + 1) (k + 1) (by omega)
      by_cases hle : el F (k + 1) ≤ c
      · have hjk : j = k := by
          rcases Nat.lt_or_ge j k with h | h
          · have := hh.out h; omega
          · omega
        subst hjk
        clear hh
        go_wp2
        exact ⟨⟨j + 1, j + 1, by go_num, by omega, by go_num, Nat.le_refl _, rfl, hle, fun h => absurd h (Nat.lt_irrefl _)⟩, by simp [intOf]; omega⟩
      · go_wp2
        refine ⟨⟨k + 1, j, by go_num, by omega, rfl, by omega, rfl, he, fun h => ?_⟩, by simp [intOf]; omega⟩
        rcases Nat.lt_or_ge j k with h' | h'
        · exact hh.out h'
        · have : j = k := by omega
          subst this; omega
    · have hkn : k = F.length := by omega
      subst hkn
      have A1 := Lib.hid (torn_all F HM.out hF6 X HX.out c j hc hj he hh.out)
      have hT := HT.out
      clear hh hlt
      rcases s1.2 with ⟨hn1, hn2⟩ | ⟨g1, o1, cap1, hn1, _, _, hn2, hn3, _⟩
      · have hF0 : F = [] := List.eq_nil_of_length_eq_zero hn2
        subst hF0
        cases hn1
        have hj0 : j = 0 := by simpa using hj
        subst hj0
        go_wp2_with (first
          | (go_at_call 33; refine (A1.out _).mono ?_; rintro e w4 ⟨a4, k4, rfl, s4, b4⟩))
        refine (same_any _ w4.heap.size a4 none k4 0 0 [] _ (by omega) s4 (Sl.nil _ _ _)).mono ?_
        rintro e w5 ⟨rfl, m5, rfl⟩
        go_wp2
        go_ret
        exact ⟨rfl, below_draw (below_step hbel b4) _⟩
      · cases hn1
        unfold maxLen at hn3
        have i1 : (j : Int) ≤ (k1 : Int) := by omega
        go_wp2_with (first
          | (go_at_call 33; refine (A1.out _).mono ?_; rintro e w4 ⟨a4, k4, rfl, s4, b4⟩; have u1 := sl_take ((s1.on (below_step b2 b3)).on b4) hj))
        refine (same_any _ _ a4 (some ⟨g1, o1, none⟩) k4 k1 j (F.take j) _ (by omega) s4 u1).mono ?_
        rintro e w5 ⟨rfl, m5, rfl⟩
        go_wp2
        go_ret
        exact ⟨rfl, below_draw (below_step hbel b4) _⟩

theorem torn_any (ao : Option Addr) (len cap : Nat) (rs : List Fr.Rc) (cut : Int) (w : World) (hlen : len ≤ maxLen) (h : RecsAt w ao len rs) :
    Calls Try.prog 10 #[.slice ao len cap, .int .i64 cut] w fun e w' => e = .returned (.bool true) ∧ Below w.heap.size w w' := by
  by_cases h0 : cut < 0
  · exact torn_out ao len cap rs cut w hlen h (.inl h0)
  · by_cases h1 : ((Fr.laid (f60 rs)).length : Int) < cut
    · exact torn_out ao len cap rs cut w hlen h (.inr ⟨by omega, h1⟩)
    · obtain ⟨c, rfl⟩ := Int.eq_ofNat_of_zero_le (show 0 ≤ cut by omega)
      exact torn_in ao len cap rs c w hlen h (by omega)
#print axioms torn_any
end Go.Proofs.Ytbebgdjlabincaa

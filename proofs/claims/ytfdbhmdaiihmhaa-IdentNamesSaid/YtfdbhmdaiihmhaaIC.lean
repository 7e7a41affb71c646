/- Layer 8: the document's own names made, read, split; the statement IdentNames walked. -/
import Derived.Test.YtfdbhmdaiihmhaaIB
namespace Go.Proofs.Ytfdbhmdaiihmhaa
open Go.RowKit Go.Lib

theorem Drw.trans {a b c : World} (h : Drw a b) (k : Drw b c) : Drw a c := by
  obtain ⟨n, rfl⟩ := k
  exact h.drewN n
theorem Drw.refl (a : World) : Drw a a := ⟨0, rfl⟩

/-- What the document's Make answers. -/
def rmkV : Option (List UInt8) → Value
  | none => .tuple #[.string (bs []), .bool false]
  | some l => .tuple #[.string (bs l), .bool true]
set_option maxHeartbeats 1000000 in
set_option maxRecDepth 100000 in
theorem rmake_any (t s : Int) (w : World) : Calls Try.prog 23 #[.int .i64 t, .int .i64 s] w fun e w' => e = .returned (rmkV (mk2 t s)) ∧ w = w' := by
  by_cases h : 0 ≤ t ∧ t < 1099511627776 ∧ 0 ≤ s ∧ s < 1099511627776
  · have hm : mk2 t s = some (Idn.nam t.toNat s.toNat) := by unfold mk2; rw [if_pos h]
    obtain ⟨t, rfl⟩ := Int.eq_ofNat_of_zero_le h.1
    obtain ⟨s, rfl⟩ := Int.eq_ofNat_of_zero_le h.2.2.1
    rw [Int.toNat_natCast, Int.toNat_natCast] at hm
    rw [hm]
    have hA := bs_append
    have l1 := bs_size_le (Idn.dg 8 t) 8 (by rw [Idn.dg_len]; omega)
    have l2 := bs_size_le (Idn.dg 8 s) 8 (by rw [Idn.dg_len]; omega)
    have h1 : decide ((1099511627775 : Int) < t) = false := by simp; omega
    have h2 : decide ((1099511627775 : Int) < s) = false := by simp; omega
    have ht : t < 1099511627776 := by omega
    have hs : s < 1099511627776 := by omega
    clear hm
    go_enter Try.func23, Try.ntmps23
    go_wp2_with fail
    refine (digits_any t _ ht).mono ?_
    rintro e w1 ⟨rfl, rfl⟩
    go_wp2_with fail
    refine (digits_any s _ hs).mono ?_
    rintro e w1 ⟨rfl, rfl⟩
    go_wp2
    go_ret2
    exact ⟨rfl, rfl⟩
  · have hm : mk2 t s = none := by unfold mk2; rw [if_neg h]
    rw [hm]
    have h4 : t < 0 ∨ ¬ t < 0 ∧ (s < 0 ∨ ¬ s < 0 ∧ ((1099511627775 : Int) < t ∨ ¬ (1099511627775 : Int) < t ∧ (1099511627775 : Int) < s)) := by omega
    clear hm h
    rcases h4 with h1 | ⟨h1, h2 | ⟨h2, h3 | ⟨h3, h4⟩⟩⟩
    · have d1 : decide (t < 0) = true := by simpa using h1
      go_enter Try.func23, Try.ntmps23
      go_wp2
      go_ret2
      exact ⟨rfl, rfl⟩
    · have d1 : decide (t < 0) = false := by simpa using h1
      have d2 : decide (s < 0) = true := by simpa using h2
      go_enter Try.func23, Try.ntmps23
      go_wp2
      go_ret2
      exact ⟨rfl, rfl⟩
    · have d1 : decide (t < 0) = false := by simpa using h1
      have d2 : decide (s < 0) = false := by simpa using h2
      have d3 : decide ((1099511627775 : Int) < t) = true := by simpa using h3
      go_enter Try.func23, Try.ntmps23
      go_wp2
      go_ret2
      exact ⟨rfl, rfl⟩
    · have d1 : decide (t < 0) = false := by simpa using h1
      have d2 : decide (s < 0) = false := by simpa using h2
      have d3 : decide ((1099511627775 : Int) < t) = false := by simpa using h3
      have d4 : decide ((1099511627775 : Int) < s) = true := by simpa using h4
      go_enter Try.func23, Try.ntmps23
      go_wp2
      go_ret2
      exact ⟨rfl, rfl⟩

/-- What the document's Parse answers. -/
def rparV : Option (Nat × Nat) → Value
  | none => .tuple #[.int .i64 0, .int .i64 0, .bool false]
  | some (a, b) => .tuple #[.int .i64 a, .int .i64 b, .bool true]
set_option maxHeartbeats 1000000 in
set_option maxRecDepth 100000 in
theorem rparse_id (s : ByteArray) (w : World) :
    Calls Try.prog 25 #[.string s] w fun e w' => e = .returned (rparV (pars s.data.toList)) ∧ Drw w w' := by
  have hls : s.data.toList.length = s.size := by rw [Array.length_toList]; rfl
  by_cases h : s.size = 16
  · obtain ⟨a, ha⟩ : ∃ a, a = Idn.num (s.data.toList.take 8) 0 := ⟨_, rfl⟩
    obtain ⟨b, hb⟩ : ∃ b, b = Idn.num (s.data.toList.drop 8) 0 := ⟨_, rfl⟩
    have hp : pars s.data.toList = par2 a b := by
      unfold pars
      rw [if_pos (by omega), ha, hb]
    have N1 := Lib.hid (fun W => show Calls Try.prog 64 #[.string (s.extract 0 8)] W (fun e w' => e = .returned (.int .i64 (numI a)) ∧ Drw W w') by
      have := rnumber_any (s.extract 0 8) W (by rw [ByteArray.size_extract]; omega)
      rwa [extract_bs0, bs_list, ← ha, ← extract_bs0] at this)
    have N2 := Lib.hid (fun W => show Calls Try.prog 64 #[.string (s.extract 8 s.size)] W (fun e w' => e = .returned (.int .i64 (numI b)) ∧ Drw W w') by
      have := rnumber_any (s.extract 8 s.size) W (by rw [ByteArray.size_extract]; omega)
      rwa [extract_bs, bs_list, ← hb, ← extract_bs] at this)
    have HP := Lib.hid hp
    have hz : (s.size : Int) = 16 := by omega
    clear hp ha hb hls h
    cases a with
    | none =>
      unfold numI at N1
      go_enter Try.func25, Try.ntmps25
      go_wp2_with fail
      with_reducible refine (N1.out _).mono ?_
      rintro e w1 ⟨rfl, d1⟩
      go_wp2_with fail
      with_reducible refine (N2.out _).mono ?_
      rintro e w2 ⟨rfl, d2⟩
      go_wp2
      go_ret3
      exact ⟨by rw [HP.out]; rfl, d1.trans d2⟩
    | some a =>
      cases b with
      | none =>
        unfold numI at N1 N2
        go_enter Try.func25, Try.ntmps25
        go_wp2_with fail
        with_reducible refine (N1.out _).mono ?_
        rintro e w1 ⟨rfl, d1⟩
        go_wp2_with fail
        with_reducible refine (N2.out _).mono ?_
        rintro e w2 ⟨rfl, d2⟩
        go_wp2
        go_ret3
        exact ⟨by rw [HP.out]; rfl, d1.trans d2⟩
      | some b =>
        unfold numI at N1 N2
        go_enter Try.func25, Try.ntmps25
        go_wp2_with fail
        with_reducible refine (N1.out _).mono ?_
        rintro e w1 ⟨rfl, d1⟩
        go_wp2_with fail
        with_reducible refine (N2.out _).mono ?_
        rintro e w2 ⟨rfl, d2⟩
        have p1 : decide ((a : Int) < 0) = false := by simp
        have p2 : decide ((b : Int) < 0) = false := by simp
        go_wp2
        go_ret3
        exact ⟨by rw [HP.out]; rfl, d1.trans d2⟩
  · have hp : pars s.data.toList = none := by
      unfold pars
      rw [if_neg (by omega)]
    have hz : ¬ (s.size : Int) = 16 := by omega
    have HP := Lib.hid hp
    clear hp hls h
    go_enter Try.func25, Try.ntmps25
    go_wp2
    go_ret3
    exact ⟨by rw [HP.out]; rfl, Drw.refl _⟩

theorem mem_take_num : ∀ (l : List UInt8) (v n : Nat), Idn.num l v = some n → (47 : UInt8) ∉ l
  | [], _, _, _ => by simp
  | c :: l, v, n, h => by
    unfold Idn.num at h
    cases hc : Idn.ix c with
    | none => rw [hc] at h; cases h
    | some d =>
      rw [hc] at h
      obtain ⟨h1, h2⟩ := Idn.ix_some hc
      rw [List.mem_cons, not_or]
      exact ⟨fun e => sg_ne d h1 (by rw [h2, e]), mem_take_num l _ n h⟩
theorem pars_ne {l : List UInt8} (h : (pars l).isSome = true) : l.length = 16 ∧ (47 : UInt8) ∉ l := by
  obtain ⟨⟨a, b⟩, he⟩ := Option.isSome_iff_exists.1 h
  obtain ⟨_, _, hn⟩ := pars_some he
  rw [hn]
  exact ⟨Idn.nam_len a b, nam_ne a b⟩
/-- An object's name split, in the document's way. -/
theorem spl_at (l : List UInt8) : spl l = if 17 ≤ l.length ∧ l[16]? = some 47 ∧ (pars (l.take 16)).isSome = true ∧ isp (l.drop 17) = true then some (l.take 16, l.drop 17) else none := by
  unfold spl cutL
  by_cases hm : (47 : UInt8) ∈ l
  · rw [if_pos hm]
    rcases indexB_bounds l 47 with ⟨_, h2⟩ | ⟨i, h1, h2, h3, h4⟩
    · exact absurd hm h2
    · rw [h1, Int.toNat_natCast]
      simp only
      by_cases hp : (pars (l.take i)).isSome = true ∧ isp (l.drop (i + 1)) = true
      · have hi : i = 16 := by
          have := (pars_ne hp.1).1
          rw [List.length_take] at this
          omega
        subst hi
        rw [if_pos (by simp [hp.1, hp.2]), if_pos ⟨by omega, h3, hp.1, hp.2⟩]
      · rw [if_neg (by simpa using hp), if_neg]
        rintro ⟨k1, k2, k3, k4⟩
        have k5 := pars_ne k3
        have hi : i = 16 := by
          rcases Nat.lt_trichotomy i 16 with hlt | he | hgt
          · exfalso
            apply k5.2
            have : (l.take 16)[i]? = some 47 := by rw [List.getElem?_take, if_pos hlt]; exact h3
            exact List.mem_of_getElem? this
          · exact he
          · exfalso
            apply h4
            have : (l.take i)[16]? = some 47 := by rw [List.getElem?_take, if_pos hgt]; exact k2
            exact List.mem_of_getElem? this
        subst hi
        exact hp ⟨k3, k4⟩
  · rw [if_neg hm, if_neg]
    rintro ⟨_, k2, _⟩
    exact hm (List.mem_of_getElem? k2)
end Go.Proofs.Ytfdbhmdaiihmhaa

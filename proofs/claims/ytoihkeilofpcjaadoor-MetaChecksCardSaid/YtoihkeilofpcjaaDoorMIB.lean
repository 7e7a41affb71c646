/- Layer 8: the document's own number, name, object's name. Layer 8: the document's own names made, read, split; the statement IdentNames walked. -/
import Derived.Test.YtoihkeilofpcjaaDoorMI9
import Derived.Deep.QuietTactic
import Derived.BigQuiet
namespace Go.Proofs.YtoihkeilofpcjaaDoor
open Go.RowKit Go.Lib

theorem one_cut (s : ByteArray) (k : Nat) (h : k < s.size) : s.extract k (k + 1) = bs [s[k]] := by
  apply ByteArray.ext
  apply Array.toList_inj.1
  rw [ByteArray.data_extract, Array.toList_extract]
  show List.take (k + 1 - k) (s.data.toList.drop k) = [s[k]]
  rw [list_at s k h, Nat.add_sub_cancel_left]
  rfl

/-- A world, but for its count of draws. -/
def Drw (w w' : World) : Prop := ∃ n, w' = w.drewN n
theorem Drw.drewN {w w' : World} (h : Drw w w') (k : Nat) : Drw w (w'.drewN k) := by
  obtain ⟨n, rfl⟩ := h
  exact ⟨n + k, by rw [World.drewN_drewN]⟩
theorem Drw.below {B : Nat} {a w w' : World} (h : Below B a w) (k : Drw w w') : Below B a w' := by
  obtain ⟨n, rfl⟩ := k
  exact below_draw h n

/-- The document's answer: a number, or -1. -/
def numI : Option Nat → Int
  | none => -1
  | some n => n

set_option maxHeartbeats 2000000 in
set_option maxRecDepth 100000 in
theorem rnumber_any (s : ByteArray) (w : World) (hl : s.size ≤ 8) :
    Calls Tryd.prog 55 #[.string s] w fun e w' => e = .returned (.int .i64 (numI (Idn.num s.data.toList 0))) ∧ Drw w w' := by
  have hT := bs_toList
  go_enter Tryd.func55, Tryd.ntmps55
  go_wp2_with fail
  go_loopw [3, 4] (fun v' i' wr => ∃ (k u : Nat), v' = .int .i64 u ∧ i' = .int .i64 k ∧ k ≤ s.size ∧ u < 32 ^ k ∧ Hid (Idn.num s.data.toList 0 = Idn.num (s.data.toList.drop k) u) ∧ Drw w wr) (fun _ i' _ => s.size - (intOf i').toNat)
  case atStart => exact ⟨0, 0, rfl, rfl, by omega, by simp, rfl, 0, rfl⟩
  case round =>
    obtain ⟨k, u, rfl, rfl, hk, hu, hn, hW⟩ := hrel
    by_cases hlt : k < s.size
    · have hat := Lib.hid (list_at s k hlt)
      have hcut := one_cut s k hlt
      obtain ⟨c, hc⟩ : ∃ c, c = s[k] := ⟨_, rfl⟩
      rw [← hc] at hat hcut
      have hkp : (32:Nat) ^ k ≤ 32 ^ 7 := Nat.pow_le_pow_right (by decide) (by omega)
      have hu' : u < 34359738368 := Nat.lt_of_lt_of_le hu hkp
      have HU := Lib.hid hu
      have HC := Lib.hid hcut
      clear hkp hu hc hcut
      go_wp2_with fail
      go_loopw [5, 6] (fun d' j' wr => ∃ (j : Nat), d' = .int .i64 (lastIx c j) ∧ j' = .int .i64 j ∧ j ≤ 32 ∧ Drw w wr) (fun _ j' _ => 32 - (intOf j').toNat)
      case atStart => exact ⟨0, by rw [last_zero], rfl, by omega, hW⟩
      case round =>
        rename_i W1
        obtain ⟨j, rfl, rfl, hj, hW1⟩ := hrel
        clear hW
        by_cases hj32 : j < 32
        · have hS := Lib.hid (fun W => sign_any j W hj32)
          have hjlt : (j : Int) < 32 := by omega
          have e1 : IntKind.i64.wrap ((k : Int) + 1) = (k : Int) + 1 := IntWalk.i64_in _ (by omega)
          have e2 : (0 : Int) ≤ (k : Int) + 1 := by omega
          have e3 : ((k : Int) + 1).toNat = k + 1 := by omega
          have e4 : (k : Int) + 1 ≤ s.size := by omega
          have hcut := HC.out
          by_cases hh : Idn.sg j = c
          · have hb : (Idn.sg j == c) = true := by simpa using hh
            have hL := Lib.hid (last_hit hj32 hh)
            clear hh
            go_wp2_with fail
            go_quiet ((go_at_call 60; exact Calls.quiet_of_same ((hS.out _).mono fun _ _ h => ⟨h.1, h.2.symm⟩)))
            clear e1 e3
            go_wp2
            exact ⟨⟨j + 1, by rw [hL.out], by simp, by omega, hW1.drewN _⟩, by simp [intOf]; omega⟩
          · have hb : (Idn.sg j == c) = false := by simpa using hh
            have hL := Lib.hid (last_miss hh)
            clear hh
            go_wp2_with fail
            go_quiet ((go_at_call 60; exact Calls.quiet_of_same ((hS.out _).mono fun _ _ h => ⟨h.1, h.2.symm⟩)))
            clear e1 e3
            go_wp2
            exact ⟨⟨j + 1, by rw [hL.out], by simp, by omega, hW1.drewN _⟩, by simp [intOf]; omega⟩
        · have hj' : j = 32 := by omega
          subst hj'
          have hL := last_all c
          cases hx : Idn.ix c with
          | none =>
            have hq := hn.out
            rw [hat.out, Idn.num, hx] at hq
            rw [hx] at hL
            have HQ := Lib.hid hq
            rw [hL]
            clear hq hn hat hx hL
            go_wp2
            go_ret
            exact ⟨by rw [HQ.out]; rfl, hW1⟩
          | some d =>
            have hd := (Idn.ix_some hx).1
            have hq := hn.out
            rw [hat.out, Idn.num, hx] at hq
            rw [hx] at hL
            have HQ := Lib.hid hq
            rw [hL]
            clear hq hn hat hx hL
            go_wp2
            refine ⟨⟨k + 1, u * 32 + d, by simp; omega, by simp, by omega, ?_, HQ.out, hW1⟩, by simp [intOf]; omega⟩
            rw [Nat.pow_succ]
            have := HU.out
            omega
    · have he : s.data.toList.drop k = [] := List.drop_eq_nil_of_le (by rw [Array.length_toList]; show s.size ≤ k; omega)
      have hq := hn.out
      rw [he, Idn.num] at hq
      have HQ := Lib.hid hq
      clear hq hn he hu
      go_wp2
      go_ret
      exact ⟨by rw [HQ.out]; rfl, hW⟩
end Go.Proofs.YtoihkeilofpcjaaDoor

namespace Go.Proofs.YtoihkeilofpcjaaDoor
open Go.RowKit Go.Lib

theorem Drw.trans {a b c : World} (h : Drw a b) (k : Drw b c) : Drw a c := by
  obtain ⟨n, rfl⟩ := k
  exact h.drewN n
theorem Drw.refl (a : World) : Drw a a := ⟨0, rfl⟩

/-- What the document's Make answers. -/
def rmkV : Option (List UInt8) → Value
  | none => .tuple #[.string (bs []), .bool false]
  | some l => .tuple #[.string (bs l), .bool true]
/-- What the document's Parse answers. -/
def rparV : Option (Nat × Nat) → Value
  | none => .tuple #[.int .i64 0, .int .i64 0, .bool false]
  | some (a, b) => .tuple #[.int .i64 a, .int .i64 b, .bool true]
set_option maxHeartbeats 1000000 in
set_option maxRecDepth 100000 in
theorem rparse_id (s : ByteArray) (w : World) :
    Calls Tryd.prog 44 #[.string s] w fun e w' => e = .returned (rparV (pars s.data.toList)) ∧ Drw w w' := by
  have hls : s.data.toList.length = s.size := by rw [Array.length_toList]; rfl
  by_cases h : s.size = 16
  · obtain ⟨a, ha⟩ : ∃ a, a = Idn.num (s.data.toList.take 8) 0 := ⟨_, rfl⟩
    obtain ⟨b, hb⟩ : ∃ b, b = Idn.num (s.data.toList.drop 8) 0 := ⟨_, rfl⟩
    have hp : pars s.data.toList = par2 a b := by
      unfold pars
      rw [if_pos (by omega), ha, hb]
    have N1 := Lib.hid (fun W => show Calls Tryd.prog 55 #[.string (s.extract 0 8)] W (fun e w' => e = .returned (.int .i64 (numI a)) ∧ Drw W w') by
      have := rnumber_any (s.extract 0 8) W (by rw [ByteArray.size_extract]; omega)
      rwa [extract_bs0, bs_list, ← ha, ← extract_bs0] at this)
    have N2 := Lib.hid (fun W => show Calls Tryd.prog 55 #[.string (s.extract 8 s.size)] W (fun e w' => e = .returned (.int .i64 (numI b)) ∧ Drw W w') by
      have := rnumber_any (s.extract 8 s.size) W (by rw [ByteArray.size_extract]; omega)
      rwa [extract_bs, bs_list, ← hb, ← extract_bs] at this)
    have HP := Lib.hid hp
    have hz : (s.size : Int) = 16 := by omega
    clear hp ha hb hls h
    cases a with
    | none =>
      unfold numI at N1
      go_enter Tryd.func44, Tryd.ntmps44
      go_wp2_with fail
      with_reducible refine (N1.out _).mono ?_
      rintro e w1 ⟨rfl, d1⟩
      go_wp2_with fail
      with_reducible refine (N2.out _).mono ?_
      rintro e w2 ⟨rfl, d2⟩
      go_wp2
      go_ret3
      exact ⟨by rw [HP.out]; rfl, d1.trans d2⟩
    | some a =>
      cases b with
      | none =>
        unfold numI at N1 N2
        go_enter Tryd.func44, Tryd.ntmps44
        go_wp2_with fail
        with_reducible refine (N1.out _).mono ?_
        rintro e w1 ⟨rfl, d1⟩
        go_wp2_with fail
        with_reducible refine (N2.out _).mono ?_
        rintro e w2 ⟨rfl, d2⟩
        go_wp2
        go_ret3
        exact ⟨by rw [HP.out]; rfl, d1.trans d2⟩
      | some b =>
        unfold numI at N1 N2
        go_enter Tryd.func44, Tryd.ntmps44
        go_wp2_with fail
        with_reducible refine (N1.out _).mono ?_
        rintro e w1 ⟨rfl, d1⟩
        go_wp2_with fail
        with_reducible refine (N2.out _).mono ?_
        rintro e w2 ⟨rfl, d2⟩
        have p1 : decide ((a : Int) < 0) = false := by simp
        have p2 : decide ((b : Int) < 0) = false := by simp
        go_wp2
        go_ret3
        exact ⟨by rw [HP.out]; rfl, d1.trans d2⟩
  · have hp : pars s.data.toList = none := by
      unfold pars
      rw [if_neg (by omega)]
    have hz : ¬ (s.size : Int) = 16 := by omega
    have HP := Lib.hid hp
    clear hp hls h
    go_enter Tryd.func44, Tryd.ntmps44
    go_wp2
    go_ret3
    exact ⟨by rw [HP.out]; rfl, Drw.refl _⟩

theorem mem_take_num : ∀ (l : List UInt8) (v n : Nat), Idn.num l v = some n → (47 : UInt8) ∉ l
  | [], _, _, _ => by simp
  | c :: l, v, n, h => by
    unfold Idn.num at h
    cases hc : Idn.ix c with
    | none => rw [hc] at h; cases h
    | some d =>
      rw [hc] at h
      obtain ⟨h1, h2⟩ := Idn.ix_some hc
      rw [List.mem_cons, not_or]
      exact ⟨fun e => sg_ne d h1 (by rw [h2, e]), mem_take_num l _ n h⟩
theorem pars_ne {l : List UInt8} (h : (pars l).isSome = true) : l.length = 16 ∧ (47 : UInt8) ∉ l := by
  obtain ⟨⟨a, b⟩, he⟩ := Option.isSome_iff_exists.1 h
  obtain ⟨_, _, hn⟩ := pars_some he
  rw [hn]
  exact ⟨Idn.nam_len a b, nam_ne a b⟩
/-- An object's name split, in the document's way. -/
theorem spl_at (l : List UInt8) : spl l = if 17 ≤ l.length ∧ l[16]? = some 47 ∧ (pars (l.take 16)).isSome = true ∧ isp (l.drop 17) = true then some (l.take 16, l.drop 17) else none := by
  unfold spl cutL
  by_cases hm : (47 : UInt8) ∈ l
  · rw [if_pos hm]
    rcases indexB_bounds l 47 with ⟨_, h2⟩ | ⟨i, h1, h2, h3, h4⟩
    · exact absurd hm h2
    · rw [h1, Int.toNat_natCast]
      simp only
      by_cases hp : (pars (l.take i)).isSome = true ∧ isp (l.drop (i + 1)) = true
      · have hi : i = 16 := by
          have := (pars_ne hp.1).1
          rw [List.length_take] at this
          omega
        subst hi
        rw [if_pos (by simp [hp.1, hp.2]), if_pos ⟨by omega, h3, hp.1, hp.2⟩]
      · rw [if_neg (by simpa using hp), if_neg]
        rintro ⟨k1, k2, k3, k4⟩
        have k5 := pars_ne k3
        have hi : i = 16 := by
          rcases Nat.lt_trichotomy i 16 with hlt | he | hgt
          · exfalso
            apply k5.2
            have : (l.take 16)[i]? = some 47 := by rw [List.getElem?_take, if_pos hlt]; exact h3
            exact List.mem_of_getElem? this
          · exact he
          · exfalso
            apply h4
            have : (l.take i)[16]? = some 47 := by rw [List.getElem?_take, if_pos hgt]; exact k2
            exact List.mem_of_getElem? this
        subst hi
        exact hp ⟨k3, k4⟩
  · rw [if_neg hm, if_neg]
    rintro ⟨_, k2, _⟩
    exact hm (List.mem_of_getElem? k2)
end Go.Proofs.YtoihkeilofpcjaaDoor

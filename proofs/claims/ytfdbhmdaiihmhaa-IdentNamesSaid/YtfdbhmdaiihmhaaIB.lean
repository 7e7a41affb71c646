/- Layer 8: the document's own number, name, object's name. -/
import Derived.Test.YtfdbhmdaiihmhaaIA
import Derived.Deep.QuietTactic
import Derived.BigQuiet
namespace Go.Proofs.Ytfdbhmdaiihmhaa
open Go.RowKit Go.Lib

theorem one_cut (s : ByteArray) (k : Nat) (h : k < s.size) : s.extract k (k + 1) = bs [s[k]] := by
  apply ByteArray.ext
  apply Array.toList_inj.1
  rw [ByteArray.data_extract, Array.toList_extract]
  show List.take (k + 1 - k) (s.data.toList.drop k) = [s[k]]
  rw [list_at s k h, Nat.add_sub_cancel_left]
  rfl

/-- A world, but for its count of draws. -/
def Drw (w w' : World) : Prop := ∃ n, w' = w.drewN n
theorem Drw.drewN {w w' : World} (h : Drw w w') (k : Nat) : Drw w (w'.drewN k) := by
  obtain ⟨n, rfl⟩ := h
  exact ⟨n + k, by rw [World.drewN_drewN]⟩
theorem Drw.below {B : Nat} {a w w' : World} (h : Below B a w) (k : Drw w w') : Below B a w' := by
  obtain ⟨n, rfl⟩ := k
  exact below_draw h n

/-- The document's answer: a number, or -1. -/
def numI : Option Nat → Int
  | none => -1
  | some n => n

set_option maxHeartbeats 2000000 in
set_option maxRecDepth 100000 in
theorem rnumber_any (s : ByteArray) (w : World) (hl : s.size ≤ 8) :
    Calls Try.prog 64 #[.string s] w fun e w' => e = .returned (.int .i64 (numI (Idn.num s.data.toList 0))) ∧ Drw w w' := by
  have hT := bs_toList
  go_enter Try.func64, Try.ntmps64
  go_wp2_with fail
  go_loopw [3, 4] (fun v' i' wr => ∃ (k u : Nat), v' = .int .i64 u ∧ i' = .int .i64 k ∧ k ≤ s.size ∧ u < 32 ^ k ∧ Hid (Idn.num s.data.toList 0 = Idn.num (s.data.toList.drop k) u) ∧ Drw w wr) (fun _ i' _ => s.size - (intOf i').toNat)
  case atStart => exact ⟨0, 0, rfl, rfl, by omega, by simp, rfl, 0, rfl⟩
  case round =>
    obtain ⟨k, u, rfl, rfl, hk, hu, hn, hW⟩ := hrel
    by_cases hlt : k < s.size
    · have hat := Lib.hid (list_at s k hlt)
      have hcut := one_cut s k hlt
      obtain ⟨c, hc⟩ : ∃ c, c = s[k] := ⟨_, rfl⟩
      rw [← hc] at hat hcut
      have hkp : (32:Nat) ^ k ≤ 32 ^ 7 := Nat.pow_le_pow_right (by decide) (by omega)
      have hu' : u < 34359738368 := Nat.lt_of_lt_of_le hu hkp
      have HU := Lib.hid hu
      have HC := Lib.hid hcut
      clear hkp hu hc hcut
      go_wp2_with fail
      go_loopw [5, 6] (fun d' j' wr => ∃ (j : Nat), d' = .int .i64 (lastIx c j) ∧ j' = .int .i64 j ∧ j ≤ 32 ∧ Drw w wr) (fun _ j' _ => 32 - (intOf j').toNat)
      case atStart => exact ⟨0, by rw [last_zero], rfl, by omega, hW⟩
      case round =>
        rename_i W1
        obtain ⟨j, rfl, rfl, hj, hW1⟩ := hrel
        clear hW
        by_cases hj32 : j < 32
        · have hS := Lib.hid (fun W => sign_any j W hj32)
          have hjlt : (j : Int) < 32 := by omega
          have e1 : IntKind.i64.wrap ((k : Int) + 1) = (k : Int) + 1 := IntWalk.i64_in _ (by omega)
          have e2 : (0 : Int) ≤ (k : Int) + 1 := by omega
          have e3 : ((k : Int) + 1).toNat = k + 1 := by omega
          have e4 : (k : Int) + 1 ≤ s.size := by omega
          have hcut := HC.out
          by_cases hh : Idn.sg j = c
          · have hb : (Idn.sg j == c) = true := by simpa using hh
            have hL := Lib.hid (last_hit hj32 hh)
            clear hh
            go_wp2_with fail
            go_quiet ((go_at_call 96; exact Calls.quiet_of_same ((hS.out _).mono fun _ _ h => ⟨h.1, h.2.symm⟩)))
            clear e1 e3
            go_wp2
            exact ⟨⟨j + 1, by rw [hL.out], by simp, by omega, hW1.drewN _⟩, by simp [intOf]; omega⟩
          · have hb : (Idn.sg j == c) = false := by simpa using hh
            have hL := Lib.hid (last_miss hh)
            clear hh
            go_wp2_with fail
            go_quiet ((go_at_call 96; exact Calls.quiet_of_same ((hS.out _).mono fun _ _ h => ⟨h.1, h.2.symm⟩)))
            clear e1 e3
            go_wp2
            exact ⟨⟨j + 1, by rw [hL.out], by simp, by omega, hW1.drewN _⟩, by simp [intOf]; omega⟩
        · have hj' : j = 32 := by omega
          subst hj'
          have hL := last_all c
          cases hx : Idn.ix c with
          | none =>
            have hq := hn.out
            rw [hat.out, Idn.num, hx] at hq
            rw [hx] at hL
            have HQ := Lib.hid hq
            rw [hL]
            clear hq hn hat hx hL
            go_wp2
            go_ret
            exact ⟨by rw [HQ.out]; rfl, hW1⟩
          | some d =>
            have hd := (Idn.ix_some hx).1
            have hq := hn.out
            rw [hat.out, Idn.num, hx] at hq
            rw [hx] at hL
            have HQ := Lib.hid hq
            rw [hL]
            clear hq hn hat hx hL
            go_wp2
            refine ⟨⟨k + 1, u * 32 + d, by simp; omega, by simp, by omega, ?_, HQ.out, hW1⟩, by simp [intOf]; omega⟩
            rw [Nat.pow_succ]
            have := HU.out
            omega
    · have he : s.data.toList.drop k = [] := List.drop_eq_nil_of_le (by rw [Array.length_toList]; show s.size ≤ k; omega)
      have hq := hn.out
      rw [he, Idn.num] at hq
      have HQ := Lib.hid hq
      clear hq hn he hu
      go_wp2
      go_ret
      exact ⟨by rw [HQ.out]; rfl, hW⟩
end Go.Proofs.Ytfdbhmdaiihmhaa

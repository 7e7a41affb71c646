/- Layer 8: the document's own names. -/
import Derived.Test.YtfdbhmdaiihmhaaI9
import Derived.IntWalk
namespace Go.Proofs.Ytfdbhmdaiihmhaa
open Go.RowKit Go.Lib

theorem dig_cut (d : Nat) (h : d < 32) : (ByteArray.mk #[48, 49, 50, 51, 52, 53, 54, 55, 56, 57, 97, 98, 99, 100, 101, 102, 103, 104, 106, 107, 109, 110, 112, 113, 114, 115, 116, 118, 119, 120, 121, 122]).extract d (d + 1) = bs [Idn.sg d] := by
  have : ∀ d : Fin 32, ((ByteArray.mk #[48, 49, 50, 51, 52, 53, 54, 55, 56, 57, 97, 98, 99, 100, 101, 102, 103, 104, 106, 107, 109, 110, 112, 113, 114, 115, 116, 118, 119, 120, 121, 122]).extract d.val (d.val + 1)).data = (bs [Idn.sg d.val]).data := by decide
  exact ByteArray.ext (this ⟨d, h⟩)

set_option maxHeartbeats 1000000 in
set_option maxRecDepth 100000 in
theorem sign_any (d : Nat) (w : World) (h : d < 32) : Calls Try.prog 96 #[.int .i64 d] w fun e w' => e = .returned (.string (bs [Idn.sg d])) ∧ w = w' := by
  have hc := Lib.hid (dig_cut d h)
  have h1 : (d : Int) + 1 ≤ 32 := by omega
  go_enter Try.func96, Try.ntmps96
  go_wp2
  go_ret
  exact ⟨by rw [← hc.out]; rfl, rfl⟩

set_option maxHeartbeats 1000000 in
set_option maxRecDepth 100000 in
theorem digits_any (v : Nat) (w : World) (hv : v < 1099511627776) :
    Calls Try.prog 62 #[.int .i64 v] w fun e w' => e = .returned (.string (bs (Idn.dg 8 v))) ∧ w = w' := by
  have hA := bs_append
  go_enter Try.func62, Try.ntmps62
  go_wp2_with fail
  go_loopw [0, 3, 4] (fun v' s' i' wr => ∃ (i u : Nat) (lo : List UInt8), v' = .int .i64 u ∧ s' = .string (bs lo) ∧ i' = .int .i64 i ∧ i ≤ 8 ∧ lo.length = i ∧ u < 1099511627776 ∧ Hid (Idn.dg (8 - i) u ++ lo = Idn.dg 8 v) ∧ w = wr) (fun _ _ i' _ => (8 - intOf i').toNat)
  case atStart => exact ⟨0, v, [], rfl, rfl, rfl, by omega, rfl, hv, by show _ = _; simp, rfl⟩
  case round =>
    obtain ⟨i, u, lo, rfl, rfl, rfl, hi, hl, hu, hd, rfl⟩ := hrel
    by_cases hlt : i < 8
    · have l1 := bs_size_le lo 8 (by omega)
      have l2 := bs_size_le [Idn.sg (u % 32)] 1 (by simp)
      have HL := Lib.hid hl
      have S := Lib.hid (fun W => show Calls Try.prog 96 #[.int .i64 ((u : Int) % 32)] W (fun e w' => e = .returned (.string (bs [Idn.sg (u % 32)])) ∧ W = w') by
        have := sign_any (u % 32) W (Nat.mod_lt _ (by decide))
        rwa [Int.natCast_emod] at this)
      have hA2 := Lib.hid hd.out
      clear hl hd
      go_wp2_with fail
      with_reducible refine (S.out _).mono ?_
      rintro e w1 ⟨rfl, rfl⟩
      go_wp2
      refine ⟨⟨i + 1, u / 32, Idn.sg (u % 32) :: lo, by simp, by simp, by simp, by omega, by have := HL.out; simpa using this, by omega, ?_, trivial⟩, by simp [intOf]; omega⟩
      show _ = _
      rw [← hA2.out, show 8 - i = (8 - (i + 1)) + 1 by omega, Idn.dg]
      simp
    · have hi8 : i = 8 := by omega
      subst hi8
      have he := hd.out
      rw [show 8 - 8 = 0 from rfl, Idn.dg, List.nil_append] at he
      subst he
      clear hd hl
      go_wp2
      go_ret
      exact ⟨rfl, rfl⟩

/-- What the document's search has found among the first k digits. -/
def lastIx (c : UInt8) (k : Nat) : Int := match Idn.ix c with | some d => if d < k then d else -1 | none => -1
theorem last_hit {c : UInt8} {k : Nat} (hk : k < 32) (h : Idn.sg k = c) : lastIx c (k + 1) = k := by
  unfold lastIx
  rw [← h, Idn.ix_sg k hk]
  simp
theorem last_miss {c : UInt8} {k : Nat} (h : ¬ Idn.sg k = c) : lastIx c (k + 1) = lastIx c k := by
  unfold lastIx
  cases hx : Idn.ix c with
  | none => rfl
  | some d =>
    have := (Idn.ix_some hx).2
    have hne : d ≠ k := fun e => h (by rw [← e]; exact this)
    simp only
    by_cases h1 : d < k
    · rw [if_pos h1, if_pos (by omega)]
    · rw [if_neg h1, if_neg (by omega)]
theorem last_zero (c : UInt8) : lastIx c 0 = -1 := by unfold lastIx; cases Idn.ix c <;> simp
theorem last_all (c : UInt8) : lastIx c 32 = match Idn.ix c with | some d => (d : Int) | none => -1 := by
  unfold lastIx
  cases hx : Idn.ix c with
  | none => rfl
  | some d => simp [(Idn.ix_some hx).1]
theorem last_ge (c : UInt8) (k : Nat) : -1 ≤ lastIx c k ∧ lastIx c k < 32 := by
  unfold lastIx
  cases hx : Idn.ix c with
  | none => simp
  | some d =>
    have := (Idn.ix_some hx).1
    simp only
    split <;> omega
end Go.Proofs.Ytfdbhmdaiihmhaa

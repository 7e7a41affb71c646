/- Layer 8: the statements IdentOne and IdentBack, walked. -/
import Derived.Test.YtiegokjdnlhlcaaMI8
import Derived.Laws.BitsLemmas
namespace Go.Proofs.Ytiegokjdnlhlcaa
open Go.RowKit Go.Lib

theorem pars_some {l : List UInt8} {a b : Nat} (h : pars l = some (a, b)) : a < 1099511627776 ∧ b < 1099511627776 ∧ l = Idn.nam a b := by
  unfold pars at h
  split at h
  · rename_i hl
    cases h1 : Idn.num (l.take 8) 0 with
    | none => rw [h1] at h; simp [par2] at h
    | some x =>
      cases h2 : Idn.num (l.drop 8) 0 with
      | none => rw [h1, h2] at h; simp [par2] at h
      | some y =>
        rw [h1, h2] at h
        simp only [par2, Option.some.injEq, Prod.mk.injEq] at h
        obtain ⟨rfl, rfl⟩ := h
        obtain ⟨k1, k2⟩ := Idn.num_some h1
        obtain ⟨k3, k4⟩ := Idn.num_some h2
        have e1 : (l.take 8).length = 8 := by simp; omega
        have e2 : (l.drop 8).length = 8 := by simp; omega
        rw [e1] at k1 k2
        rw [e2] at k3 k4
        refine ⟨Nat.lt_of_lt_of_le k1 (by decide), Nat.lt_of_lt_of_le k3 (by decide), ?_⟩
        rw [Idn.nam, k2, k4, List.take_append_drop]
  · cases h

theorem pars_nam (a b : Nat) (ha : a < 1099511627776) (hb : b < 1099511627776) : pars (Idn.nam a b) = some (a, b) := by
  unfold pars
  rw [if_pos (Idn.nam_len a b)]
  unfold Idn.nam
  rw [List.take_left' (Idn.dg_len 8 a), List.drop_left' (Idn.dg_len 8 a), Idn.num_dg 8 a (Nat.lt_of_lt_of_le ha (by decide)), Idn.num_dg 8 b (Nat.lt_of_lt_of_le hb (by decide))]
  rfl

theorem i64_and3 (n : Int) : bits .and .i64 n 3 = n % 4 := by
  have h3 : (BitVec.ofInt 64 3).toNat = 2 ^ 2 - 1 := by decide
  have key : (BitVec.ofInt 64 n &&& BitVec.ofInt 64 3).toNat = (n % ((2 ^ 64 : Nat) : Int)).toNat % 2 ^ 2 := by
    rw [BitVec.toNat_and, BitVec.toNat_ofInt, h3, Nat.and_two_pow_sub_one_eq_mod]
  show IntKind.i64.wrap ((BitVec.ofInt 64 n &&& BitVec.ofInt 64 3).toNat : Nat) = n % 4
  rw [key, IntKind.wrap_i64]
  omega

theorem sg_ne (d : Nat) (h : d < 32) : Idn.sg d ≠ 47 := by
  have : ∀ d : Fin 32, Idn.sg d.val ≠ 47 := by decide
  exact this ⟨d, h⟩
theorem dg_ne : ∀ k v, (47 : UInt8) ∉ Idn.dg k v
  | 0, _ => by simp [Idn.dg]
  | k + 1, v => by
    rw [Idn.dg, List.mem_append, List.mem_singleton]
    rintro (h | h)
    · exact dg_ne k _ h
    · exact sg_ne _ (Nat.mod_lt _ (by decide)) h.symm
theorem nam_ne (a b : Nat) : (47 : UInt8) ∉ Idn.nam a b := by
  rw [Idn.nam, List.mem_append]
  rintro (h | h)
  · exact dg_ne _ _ h
  · exact dg_ne _ _ h
theorem spl_app (a b : Nat) (p : List UInt8) (ha : a < 1099511627776) (hb : b < 1099511627776) (hp : isp p = true) : spl (Idn.nam a b ++ 47 :: p) = some (Idn.nam a b, p) := by
  unfold spl
  rw [cut_app _ _ _ (nam_ne a b)]
  simp [pars_nam a b ha hb, hp]

end Go.Proofs.Ytiegokjdnlhlcaa

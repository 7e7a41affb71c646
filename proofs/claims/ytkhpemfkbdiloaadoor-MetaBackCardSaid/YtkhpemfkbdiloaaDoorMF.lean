/- Layer 9: the statement MetaBent, walked. -/
import Derived.Test.YtkhpemfkbdiloaaDoorME
namespace Go.Proofs.YtkhpemfkbdiloaaDoor
open Go.RowKit Go.Lib

theorem md_small (id : List UInt8) (mn mx lv se sa : Int) (ns : Nat) (tick seq : Int) : (Mt.mdM id mn mx lv se sa ns tick seq).files.length ≤ 1000000 ∧ (Mt.mdM id mn mx lv se sa ns tick seq).src.length ≤ 1000000 := by
  unfold Mt.mdM
  exact ⟨by simp, by simp; omega⟩
theorem u8_xor_ne (c : UInt8) (by' : Nat) (hb : 0 < by') (hb2 : by' < 256) : ∃ d : UInt8, bits BinOp.xor IntKind.u8 (c.toNat : Int) (by' : Int) = (d.toNat : Int) ∧ c ≠ d := by
  have hlt : c.toNat ^^^ by' < 256 := Nat.xor_lt_two_pow (n := 8) c.toNat_lt hb2
  refine ⟨UInt8.ofNat (c.toNat ^^^ by'), ?_, fun e => ?_⟩
  · rw [u8_xor_nat _ _ c.toNat_lt hb2, Leb.toNat_ofNat _ hlt]
  · have h1 := congrArg UInt8.toNat e
    rw [Leb.toNat_ofNat _ hlt] at h1
    have h2 : c.toNat ^^^ by' = c.toNat ^^^ 0 := by rw [Nat.xor_zero]; exact h1.symm
    have := Crc.xor_cancel' h2
    omega

/-- What a bent text does to both readers. -/
theorem bent_both {k : UInt8} {d l : List UInt8} (hr : Fr.rec k d = l) (p : Nat) (c c' : UInt8) (hp : l[p]? = some c) (hne : c ≠ c') : (Mt.opn (l.set p c') 1).2 ≠ 0 ∧ (Mt.opn (l.set p c') 2).2 ≠ 0 := by
  have hlt : p < l.length := (List.getElem?_eq_some_iff.1 hp).1
  have e1 : l = l.take p ++ c :: l.drop (p + 1) := by
    rw [List.getElem?_eq_getElem hlt] at hp
    rw [← Option.some.inj hp, ← List.drop_eq_getElem_cons hlt, List.take_append_drop]
  have e2 : l.set p c' = l.take p ++ c' :: l.drop (p + 1) := by rw [List.set_eq_take_append_cons_drop, if_pos hlt]
  rw [e2]
  rw [e1] at hr
  have hr' : Fr.rec k d = l.take p ++ c :: l.drop (p + 1) := by
    rw [hr, ← e1]
  exact ⟨Mt.opn_bent hne hr', Mt.opn_bent hne hr'⟩
theorem txs_err : ∀ (n : Nat) (st : Mt.St), st.2 ≠ 0 → (Mt.txs n st).2.2 ≠ 0
  | 0, st, h => h
  | n + 1, st, h => by
    have e : (Mt.tt st 16).2 = st := by unfold Mt.tt; rw [if_pos h]
    rw [Mt.txs]
    show (Mt.txs n (Mt.tt st 16).2).2.2 ≠ 0
    rw [e]
    exact txs_err n st h
theorem dcd_err {l : List UInt8} (h : (Mt.opn l 1).2 ≠ 0) : (Mt.dcd l).2.2 ≠ 0 := fun e => h (Mt.dcd_one e).2.2.2
theorem dmk_err {l : List UInt8} (h : (Mt.opn l 2).2 ≠ 0) : (Mt.dmk l).2.2.2 ≠ 0 := fun e => h (Mt.dmk_one e).2.2.2
end Go.Proofs.YtkhpemfkbdiloaaDoor

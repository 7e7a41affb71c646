/- Layer 13: the document's parts of a text, walked. -/
import Derived.Test.YtobdlfikomnmcaaGreatDoorMTB5
import Derived.Test.YtobdlfikomnmcaaGreatDoorMTB6
namespace Go.Proofs.YtobdlfikomnmcaaGreatDoor
open Go.RowKit Go.Lib
set_option linter.unusedVariables false

theorem bi_strB7 : (Tryz.prog.info? 9).map (fun i => (i.zero, i.size, i.bytes)) = some (some (.string ⟨#[]⟩), 1, 16) := by kernel_rfl
theorem ext_one (s : List UInt8) (i : Nat) (x : UInt8) (h : s[i]? = some x) : (bs s).extract i (i + 1) = bs [x] := by
  have hl := (List.getElem?_eq_some_iff.1 h).1
  show ByteArray.extract (ByteArray.mk s.toArray) i (i + 1) = _
  rw [ByteArray.extract_mk, bs]
  congr 1
  rw [← (List.getElem?_eq_some_iff.1 h).2]
  apply Array.ext'
  simp [List.take_one, hl]
theorem txs_app (a b : List (List UInt8)) : txs (a ++ b) = txs a ++ txs b := by simp [txs]
theorem txs_len (a : List (List UInt8)) : (txs a).length = a.length := by simp [txs]
theorem one_str (x : List UInt8) : ∀ u ∈ [Value.string (bs x)], u.oneCell' = true := by
  intro u hu
  rw [List.mem_singleton] at hu
  subst hu
  rfl

set_option maxHeartbeats 4000000 in
set_option maxRecDepth 100000 in
theorem rcut13_any (s : List UInt8) (c : UInt8) (w : World) (hl : s.length ≤ 100000) :
    Calls Tryz.prog 16 #[.string (bs s), .int .u8 c.toNat] w fun e w' => ∃ v, e = .returned v ∧ Sl w' w.heap.size 1 v (parts c s).length (txs (parts c s)) ∧ Below w.heap.size w w' := by
  obtain ⟨i0, hi, hz0, hz1, hz2⟩ := info_parts bi_strB7
  have Hz := Lib.hid hz0; have Hs := Lib.hid hz1; have Hb := Lib.hid hz2; have Hi := Lib.hid hi
  clear hz0 hz1 hz2 hi
  have hT := bs_toList
  have hA := bs_append
  have HSZ := Lib.hid (bs_size s)
  obtain ⟨n, hn⟩ : ∃ n, n = (bs s).size := ⟨_, rfl⟩
  have HN := Lib.hid (show n = s.length by rw [hn, bs_size])
  have hn2 : n ≤ 100000 := by have := HN.out; omega
  have hnz : (bs s).size = n := hn.symm
  clear hn
  go_enter Tryz.func16, Tryz.ntmps16
  go_wp2_with fail
  go_loopw [5, 6, 7] (fun o' p' i' wr => ∃ (i m : Nat) (d : List (List UInt8)) (p : List UInt8), i' = .int .i64 i ∧ p' = .string (bs p) ∧ i ≤ n ∧ m ≤ i ∧ p.length ≤ i ∧ (∃ a k, o' = .slice a m k) ∧ Hid (cutF c (s.take i) = (d, p) ∧ m = d.length) ∧ Hid (Sl wr w.heap.size 1 o' m (txs d)) ∧ Below w.heap.size w wr) (fun _ _ i' _ => n - (intOf i').toNat)
  case atStart => exact ⟨0, 0, [], [], rfl, rfl, by omega, by omega, by simp, ⟨_, _, rfl⟩, Lib.hid ⟨rfl, rfl⟩, Lib.hid (Sl.lit w w.heap.size 1 0 #[] _ (Nat.le_refl _) (by decide) rfl), (Below.refl _ _).alloc (Nat.le_refl _) _⟩
  case round =>
    obtain ⟨W0, rfl⟩ : ∃ W0, W0 = wr := ⟨_, rfl⟩
    obtain ⟨i, m, d, p, rfl, rfl, hi, hmi, hpi, ⟨oa, oc, rfl⟩, hst, hs, hb⟩ := hrel
    have hbz := hb.size
    by_cases hlt : i < n
    · obtain ⟨x, hx⟩ : ∃ x, s[i]? = some x := ⟨s[i]'(by have := HN.out; omega), List.getElem?_eq_getElem (by have := HN.out; omega)⟩
      have hil : (i : Int) < n := by omega
      have h0i : (0 : Int) ≤ (i : Int) := by omega
      have hpz : i < (bs s).size := by omega
      have hgx : (bs s)[i]'hpz = x := (List.getElem?_eq_some_iff.1 hx).2
      have HTK := Lib.hid (show cutF c (s.take (i + 1)) = stepC c (d, p) x by rw [List.take_add_one, hx]; show cutF c (s.take i ++ [x]) = _; rw [cutF_snoc, hst.out.1])
      have HST := Lib.hid hst.out
      have HS := Lib.hid hs.out
      have HB := Lib.hid hb
      by_cases hxc : x = c
      · have hq : ((x.toNat : Int) == (c.toNat : Int)) = true := by rw [hxc]; simp
        have HT2 := Lib.hid (show cutF c (s.take (i + 1)) = (d ++ [p], []) by rw [HTK.out]; unfold stepC; rw [if_pos hxc])
        have own1 : Sl (W0.alloc (.cells #[.string (bs p)] 9)) w.heap.size 1 (.slice oa m oc) m (txs d) := HS.out.alloc _
        have hlit := Lib.hid (Sl.lit W0 W0.heap.size 1 1 #[.string (bs p)] 9 (Nat.le_refl _) (by decide) rfl).cells
        have n3 : m + 1 ≤ maxLen := by unfold maxLen; omega
        have n4 : (m + 1) * 16 ≤ 140737488355328 := by omega
        have hb1 : w.heap.size ≤ (W0.alloc (.cells #[.string (bs p)] 9)).heap.size := by simp; omega
        clear hst hs hb hx hxc HTK
        go_wp2_with (at_builtin; refine wpList_append_sl _ rfl _ _ 22 rfl w.heap.size 9 i0 (.string ⟨#[]⟩) 1 16 Tryz.underlying22 Hi.out Hz.out Hs.out Hb.out rfl (by decide) _ m _ rfl own1 ⟨W0.heap.size, 0, none⟩ 1 1 [.string (bs p)] rfl rfl hlit.out (one_str p) n3 n4 hb1 ?_; intro v4 w4 hx4; obtain ⟨a4, c4, rfl⟩ := hx4.now.slice)
        have hw4 : Below w.heap.size w w4 := (HB.out.alloc hbz _).trans (hx4.below (Nat.le_refl _) hb1)
        exact ⟨⟨i + 1, m + 1, d ++ [p], [], by go_num, rfl, by omega, by omega, by simp, ⟨_, _, rfl⟩, Lib.hid ⟨HT2.out, by rw [List.length_append, HST.out.2]; rfl⟩, Lib.hid (by rw [txs_app]; exact hx4.now), hw4⟩, by simp [intOf]; omega⟩
      · have hq : ((x.toNat : Int) == (c.toNat : Int)) = false := by
          rw [beq_eq_false_iff_ne]
          intro e
          exact hxc (UInt8.toNat_inj.1 (by omega))
        have HT2 := Lib.hid (show cutF c (s.take (i + 1)) = (d, p ++ [x]) by rw [HTK.out]; unfold stepC; rw [if_neg hxc])
        have hw1 : IntKind.i64.wrap ((i : Int) + 1) = (i : Int) + 1 := by
          have := IntWalk.i64_in ((i : Int) + 1) ⟨by omega, by omega⟩
          exact this
        have hl1 : (i : Int) + 1 ≤ n := by omega
        have hl2 : (i : Int) ≤ (i : Int) + 1 := by omega
        have hex := ext_one s i x hx
        have z1 := bs_size_le p i hpi
        have z2 := bs_size_le [x] 1 (by simp)
        have f1 : (bs p).size + (bs [x]).size ≤ 9223372036854775807 := by omega
        clear hst hs hb hxc HTK hx
        go_wp2_with fail
        exact ⟨⟨i + 1, m, d, p ++ [x], by go_num, rfl, by omega, by omega, by simp; omega, ⟨_, _, rfl⟩, Lib.hid ⟨HT2.out, HST.out.2⟩, HS, HB.out⟩, by simp [intOf]; omega⟩
    · have hil : ¬ (i : Int) < n := by omega
      have htk : s.take i = s := List.take_of_length_le (by have := HN.out; omega)
      have HP := Lib.hid (show parts c s = d ++ [p] by
        have h1 := cutF_is c s
        have h2 := hst.out.1
        rw [htk] at h2
        rw [h2] at h1
        exact h1.symm)
      have HML := Lib.hid hst.out.2
      have own1 : Sl (W0.alloc (.cells #[.string (bs p)] 9)) w.heap.size 1 (.slice oa m oc) m (txs d) := hs.out.alloc _
      have hlit := Lib.hid (Sl.lit W0 W0.heap.size 1 1 #[.string (bs p)] 9 (Nat.le_refl _) (by decide) rfl).cells
      have n3 : m + 1 ≤ maxLen := by unfold maxLen; omega
      have n4 : (m + 1) * 16 ≤ 140737488355328 := by omega
      have hb1 : w.heap.size ≤ (W0.alloc (.cells #[.string (bs p)] 9)).heap.size := by simp; omega
      have HB := Lib.hid hb
      clear hst hs hb htk
      go_wp2_with (at_builtin; refine wpList_append_sl _ rfl _ _ 22 rfl w.heap.size 9 i0 (.string ⟨#[]⟩) 1 16 Tryz.underlying22 Hi.out Hz.out Hs.out Hb.out rfl (by decide) _ m _ rfl own1 ⟨W0.heap.size, 0, none⟩ 1 1 [.string (bs p)] rfl rfl hlit.out (one_str p) n3 n4 hb1 ?_; intro v4 w4 hx4; obtain ⟨a4, c4, rfl⟩ := hx4.now.slice)
      go_ret
      have hlen : (parts c s).length = m + 1 := by rw [HP.out, List.length_append, HML.out]; rfl
      have htx : txs (parts c s) = txs d ++ [.string (bs p)] := by rw [HP.out, txs_app]; rfl
      exact ⟨_, rfl, by rw [hlen, htx]; exact hx4.now, (HB.out.alloc hbz _).trans (hx4.below (Nat.le_refl _) hb1)⟩
end Go.Proofs.YtobdlfikomnmcaaGreatDoor

/- The document's answers for layer 7, walked: the small ones; Good. -/
import Derived.Test.YtieaiecoiononaaDoorOF
namespace Go.Proofs.YtieaiecoiononaaDoor
open Go.RowKit Go.Lib

theorem rsize_any (k : Nat) (w : World) (hk : k ≤ 4) :
    Calls Tryd.prog 31 #[.int .i64 k] w fun e w' => e = .returned (.int .i64 (Xo.wd k)) ∧ w = w' := by
  rcases (by omega : k = 0 ∨ k = 1 ∨ k = 2 ∨ k = 3 ∨ k = 4) with rfl | rfl | rfl | rfl | rfl <;>
  · go_enter Tryd.func31, Tryd.ntmps31
    go_wp2
    go_ret
    exact ⟨rfl, rfl⟩

theorem rfits_any (u n : Nat) (w : World) (hu : u < 18446744073709551616) (hn : n ≤ 64) :
    Calls Tryd.prog 38 #[.int .u64 u, .int .i64 n] w fun e w' => e = .returned (.bool (decide (u / 2 ^ n = 0))) ∧ w = w' := by
  go_enter Tryd.func38, Tryd.ntmps38
  go_wp2
  go_loopw [0, 5] (fun u' i' wr => ∃ (i v : Nat), u' = .int .u64 v ∧ i' = .int .i64 i ∧ i ≤ n ∧ v < 18446744073709551616 ∧ Hid (v = u / 2 ^ i) ∧ w = wr) (fun _ i' _ => n - (RowKit.intOf i').toNat)
  case atStart => exact ⟨0, u, rfl, rfl, by omega, hu, by simp [Hid], rfl⟩
  case round =>
    obtain ⟨i, v, rfl, rfl, hi, hv, he, rfl⟩ := hrel
    by_cases hlt : i < n
    · have hn' : (n : Int) ≤ 64 := by omega
      have HE := Lib.hid (show v / 2 = u / 2 ^ (i + 1) by rw [he.out, Nat.div_div_eq_div_mul, Nat.pow_succ])
      clear he
      go_wp2
      exact ⟨⟨i + 1, v / 2, by go_num, by go_num, hlt, by omega, HE, by trivial⟩, by simp [RowKit.intOf]; omega⟩
    · have hin : i = n := by omega
      have HE := Lib.hid (show decide (u / 2 ^ n = 0) = ((v : Int) == 0) by
        rw [← hin, ← he.out]
        by_cases h : v = 0
        · subst h; rfl
        · rw [decide_eq_false h]; simp [h])
      clear he hin
      go_wp2
      go_ret
      exact ⟨by rw [HE.out]; rfl, rfl⟩

/-- The place of the first one; the place of the last. -/
def firstOne (l : List Bool) : Nat → Nat
  | i => match l with
    | [] => 64
    | b :: r => if b then i else firstOne r (i + 1)

set_option maxRecDepth 100000 in
theorem rgood_any (ao : Option Addr) (cap : Nat) (l : List Xo.Sm) (n : Nat) (w : World) (hn : n = l.length) (hv : Rd w 2 (.slice ao n cap) n (smc l)) (hf : Fits l) (hl : l.length ≤ 1000000) :
    Calls Tryd.prog 7 #[.slice ao n cap] w fun e w' => e = .returned (.int .i64 (ofErr l)) ∧ Below w.heap.size w w' := by
  obtain ⟨hxs, a, cap', g, off, hv, hga, hcell⟩ := hv
  cases hv
  have HN := Lib.hid hn
  have hl2 : n ≤ 1000000 := by omega
  clear hn
  go_enter Tryd.func7, Tryd.ntmps7
  go_wp2_with fail
  go_loopw [7] (fun i' wr => ∃ (i : Nat), i' = .int .i64 i ∧ i ≤ n ∧ Below w.heap.size w wr ∧ i ≤ 120 ∧ Hid (ofErr l = appAll (l.take i) (l.drop i))) (fun i' _ => n - (RowKit.intOf i').toNat)
  case atStart => exact ⟨0, rfl, by omega, Below.refl _ _, by omega, rfl⟩
  case round =>
    obtain ⟨i, rfl, hi, hb, hi2, hap⟩ := hrel
    by_cases hlt : i < n
    · have hll := HN.out
      obtain ⟨s, hs⟩ : ∃ s, l[i]? = some s := ⟨l[i]'(by omega), List.getElem?_eq_getElem (by omega)⟩
      have hfs := hf s (List.mem_of_getElem? hs)
      obtain ⟨rfl, hgl⟩ := hga (by omega)
      have hcs := smc_at l i s hs
      have c0 := (hb.cell (p := ⟨g, off + i * 2, none⟩) hgl).trans ((hcell (i * 2) (by omega)).trans hcs.1)
      have c1 := (hb.cell (p := ⟨g, off + i * 2 + 1, none⟩) hgl).trans ((hcell (i * 2 + 1) (by omega)).trans hcs.2)
      have htk : l.take (i + 1) = l.take i ++ [s] := by rw [List.take_add_one, hs]; rfl
      have hdr : l.drop i = s :: l.drop (i + 1) := by rw [← List.getElem_cons_drop (h := by omega)]; congr 1; exact (List.getElem?_eq_some_iff.1 hs).2
      have hap2 := hap.out
      rw [hdr] at hap2
      unfold appAll at hap2
      have hlen : (l.take i).length = i := by rw [List.length_take]; omega
      have hb1 : Below w.heap.size w (wr.alloc (.cells #[.int .i64 s.1, .int .u64 s.2] 25)) := hb.alloc hb.size _
      have hgw : g < wr.heap.size := Nat.lt_of_lt_of_le hgl hb.size
      have HB1 := Lib.hid hb1
      have HT := Lib.hid htk
      obtain ⟨s1, s2⟩ := s
      simp only at c0 c1 hfs
      by_cases ha : s1 < 0 ∨ 1099511627776 < s1
      · have he : Xo.err (l.take i) (s1, s2) = 1 := by unfold Xo.err; rw [if_pos ha]
        rw [he, if_pos (by decide)] at hap2
        have HA := Lib.hid hap2
        have hna : (decide (s1 < 0)) = true ∨ ((decide (s1 < 0)) = false ∧ (decide (1099511627776 < s1)) = true) := by simp; omega
        clear hap2 hap he ha htk hdr hcs hs hxs hcell hb1 hlen hll hfs
        rcases hna with hna | ⟨hna, hnb⟩ <;>
        · go_wp2_with fail
          go_ret
          exact ⟨by rw [HA.out]; rfl, HB1.out⟩
      · have d1 : (decide (s1 < 0)) = false := by simp; omega
        have d2 : (decide (1099511627776 < s1)) = false := by simp; omega
        rcases Nat.eq_zero_or_pos i with h0 | h0
        · subst h0
          have he : Xo.err (l.take 0) (s1, s2) = 0 := by unfold Xo.err; rw [if_neg ha]; rfl
          rw [he, if_neg (by decide)] at hap2
          have HA := Lib.hid (show ofErr l = appAll (l.take 1) (l.drop 1) by rw [hap2, HT.out])
          have hi0 : (0 : Int) < n := by omega
          simp only [Nat.zero_mul, Nat.add_zero] at c0 c1
          clear hap2 hap he ha htk hdr hcs hs hxs hcell hb1 hlen hll hfs
          go_wp2_with fail
          go_quiet (fail)
          go_wp2_with fail
          exact ⟨⟨1, rfl, hlt, below_draw HB1.out _, by omega, HA⟩, by simp [RowKit.intOf]; omega⟩
        · obtain ⟨j, rfl⟩ : ∃ j, i = j + 1 := ⟨i - 1, by omega⟩
          obtain ⟨p, hp⟩ : ∃ p, l[j]? = some p := ⟨l[j]'(by omega), List.getElem?_eq_getElem (by omega)⟩
          have hcp := smc_at l j p hp
          have cp := (hb.cell (p := ⟨g, off + j * 2, none⟩) hgl).trans ((hcell (j * 2) (by omega)).trans hcp.1)
          have htk2 : l.take (j + 1) = l.take j ++ [p] := by rw [List.take_add_one, hp]; rfl
          obtain ⟨p1, p2⟩ := p
          simp only at cp
          have herr : Xo.err (l.take (j + 1)) (s1, s2) = if s1 ≤ p1 then 10 else if j + 1 = 120 then 7 else 0 := by
            unfold Xo.err
            rw [if_neg ha, hlen, htk2]
            simp
          have hkw : IntKind.i64.wrap (j : Int) = (j : Int) := by rw [IntKind.wrap_i64]; omega
          have hkz : (decide ((0 : Int) < (j : Int) + 1)) = true := by simp <;> omega
          have hjn : (j : Int) < n := by omega
          have hjn2 : (j : Int) + 1 < n := by omega
          rw [herr] at hap2
          have HLT := Lib.hid hlt
          have HI2 := Lib.hid hi2
          clear hap herr ha htk hdr hcs hs hxs hcell hb1 hlen hll hfs htk2 hcp hp hlt hi hi2 h0
          by_cases hord : s1 ≤ p1
          · rw [if_pos hord, if_pos (by decide)] at hap2
            have HA := Lib.hid hap2
            have hdo : (decide (s1 ≤ p1)) = true := by simp; omega
            clear hap2 hord
            go_wp2_with fail
            go_quiet (fail)
            go_wp2_with fail
            go_ret
            exact ⟨by rw [HA.out]; rfl, below_draw HB1.out _⟩
          · rw [if_neg hord] at hap2
            have hdo : (decide (s1 ≤ p1)) = false := by simp; omega
            by_cases hf : j + 1 = 120
            · rw [if_pos hf, if_pos (by decide)] at hap2
              have HA := Lib.hid hap2
              have hj2 : (120 : Int) ≤ (j : Int) + 1 := by omega
              clear hap2 hord hf
              go_wp2_with fail
              go_quiet (fail)
              go_wp2_with fail
              go_ret
              exact ⟨by rw [HA.out]; rfl, below_draw HB1.out _⟩
            · rw [if_neg hf, if_neg (by decide)] at hap2
              have HA := Lib.hid (show ofErr l = appAll (l.take (j + 1 + 1)) (l.drop (j + 1 + 1)) by rw [hap2, HT.out])
              have hj3 : ¬ (120 : Int) ≤ (j : Int) + 1 := by have := HI2.out; omega
              have HF := Lib.hid hf
              clear hap2 hord hf
              go_wp2_with fail
              go_quiet (fail)
              go_wp2_with fail
              exact ⟨⟨j + 1 + 1, by go_num, HLT.out, below_draw HB1.out _, by have := HI2.out; have := HF.out; omega, HA⟩, by have := HLT.out; simp [RowKit.intOf]; omega⟩
    · have HA := Lib.hid (show ofErr l = 0 by rw [hap.out, List.drop_of_length_le (by have := HN.out; omega)]; rfl)
      clear hap hxs hcell
      go_wp2_with fail
      go_ret
      exact ⟨by rw [HA.out]; rfl, hb⟩
end Go.Proofs.YtieaiecoiononaaDoor

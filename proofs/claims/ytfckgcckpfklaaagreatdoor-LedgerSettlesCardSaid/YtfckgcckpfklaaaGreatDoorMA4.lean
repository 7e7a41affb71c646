/- Layer 14: the five sets of labels. Layer 14: the program's rows of the document's, walked. -/
import Derived.Test.YtfckgcckpfklaaaGreatDoorMA3
import Derived.Test.YtfckgcckpfklaaaGreatDoorML8
import Derived.Test.YtfckgcckpfklaaaGreatDoorMRd
namespace Go.Proofs.YtfckgcckpfklaaaGreatDoor
open Go.RowKit Go.Lib
set_option linter.unusedVariables false

def lab5 : Nat → List Pr
  | 0 => [⟨[97], [49]⟩]
  | 1 => [⟨[97], [49]⟩, ⟨[98], [50]⟩]
  | 2 => [⟨[97], [50]⟩]
  | 3 => [⟨[98], [49]⟩]
  | _ => [⟨[106, 111, 98], [120]⟩]
def txt5 : Nat → List UInt8
  | 0 => [97, 61, 49]
  | 1 => [97, 61, 49, 44, 98, 61, 50]
  | 2 => [97, 61, 50]
  | 3 => [98, 61, 49]
  | _ => [106, 111, 98, 61, 120]
/-- Of a name: one of five. -/
def labs (n : Int) : List Pr := lab5 (n.tmod 5).toNat
theorem lab5_len (k : Nat) : (lab5 k).length ≤ 2 := by
  unfold lab5
  split <;> decide
theorem labs_len (n : Int) : (labs n).length ≤ 2 := lab5_len _

theorem parse5 (k : Nat) (hk : k < 5) (W : World) : Calls Tryz.prog 43 #[.string (bs (txt5 k))] W (fun e w' => ∃ v, e = .returned (.tuple #[v, .int .i64 0]) ∧ Sl w' W.heap.size 2 v (lab5 k).length (prc (lab5 k)) ∧ Below W.heap.size W w') := by
  have hs : sortP (lab5 k) = lab5 k := by
    have : k = 0 ∨ k = 1 ∨ k = 2 ∨ k = 3 ∨ k = 4 := by omega
    rcases this with rfl | rfl | rfl | rfl | rfl <;> exact (sortP_of (List.Perm.refl _) (by unfold Rising; decide)).symm
  have hl : (txt5 k).length ≤ 900000 := by unfold txt5; split <;> decide
  refine (parse_lb (txt5 k) W hl).mono ?_
  rintro e w' ⟨v, er, rfl, hb, hm⟩
  have hp : pairsL (parts 44 (txt5 k)) = some (lab5 k) := by
    have : k = 0 ∨ k = 1 ∨ k = 2 ∨ k = 3 ∨ k = 4 := by omega
    rcases this with rfl | rfl | rfl | rfl | rfl <;> decide
  rw [hp] at hm
  simp only [hs] at hm
  rw [if_pos (by
    have : k = 0 ∨ k = 1 ∨ k = 2 ∨ k = 3 ∨ k = 4 := by omega
    rcases this with rfl | rfl | rfl | rfl | rfl <;> decide)] at hm
  obtain ⟨rfl, h2⟩ := hm
  exact ⟨v, rfl, h2, hb⟩

set_option maxHeartbeats 2000000 in
set_option maxRecDepth 100000 in
theorem labels14_any (n : Int) (w : World) (h0 : 0 ≤ n) (h1 : n ≤ 255) :
    Calls Tryz.prog 22 #[.int .u8 n] w fun e w' => ∃ v, e = .returned v ∧ Sl w' w.heap.size 2 v (labs n).length (prc (labs n)) ∧ Below w.heap.size w w' := by
  obtain ⟨r, hr⟩ : ∃ r, n.tmod 5 = r := ⟨_, rfl⟩
  have hr0 : 0 ≤ r := by rw [← hr]; exact Int.tmod_nonneg _ h0
  have hr5 : r < 5 := by rw [← hr]; exact Int.tmod_lt_of_pos _ (by decide)
  have HR := Lib.hid (show labs n = lab5 r.toNat by unfold labs; rw [hr])
  have hcase : r = 0 ∨ r = 1 ∨ r = 2 ∨ r = 3 ∨ r = 4 := by omega
  clear hr0 hr5
  rcases hcase with rfl | rfl | rfl | rfl | rfl
  · obtain ⟨T, hT⟩ : ∃ T, T = txt5 0 := ⟨_, rfl⟩
    obtain ⟨L, hL⟩ : ∃ L, L = lab5 0 := ⟨_, rfl⟩
    have k0 : ByteArray.mk #[97, 61, 49] = bs T := by rw [hT]; rfl
    have P := Lib.hid (fun W => parse5 0 (by decide) W)
    have HL := Lib.hid (show labs n = L by rw [HR.out, hL]; rfl)
    rw [← hT, ← hL] at P
    clear hT hL HR
    go_enter Tryz.func22, Tryz.ntmps22
    go_wp2_with fail
    refine (P.out _).mono ?_
    rintro e w1 ⟨v, rfl, s1, b1⟩
    obtain ⟨a1, c1, e1⟩ := s1.slice
    subst e1
    have S1 := Lib.hid s1
    have B1 := Lib.hid b1
    clear s1 b1
    go_wp2
    go_ret
    rw [HL.out]
    exact ⟨_, rfl, S1.out.mono (by simp), ((Below.refl _ _).alloc (Nat.le_refl _) _).trans (B1.out.mono (by simp))⟩
  · obtain ⟨T, hT⟩ : ∃ T, T = txt5 1 := ⟨_, rfl⟩
    obtain ⟨L, hL⟩ : ∃ L, L = lab5 1 := ⟨_, rfl⟩
    have k0 : ByteArray.mk #[97, 61, 49, 44, 98, 61, 50] = bs T := by rw [hT]; rfl
    have P := Lib.hid (fun W => parse5 1 (by decide) W)
    have HL := Lib.hid (show labs n = L by rw [HR.out, hL]; rfl)
    rw [← hT, ← hL] at P
    clear hT hL HR
    go_enter Tryz.func22, Tryz.ntmps22
    go_wp2_with fail
    refine (P.out _).mono ?_
    rintro e w1 ⟨v, rfl, s1, b1⟩
    obtain ⟨a1, c1, e1⟩ := s1.slice
    subst e1
    have S1 := Lib.hid s1
    have B1 := Lib.hid b1
    clear s1 b1
    go_wp2
    go_ret
    rw [HL.out]
    exact ⟨_, rfl, S1.out.mono (by simp), ((Below.refl _ _).alloc (Nat.le_refl _) _).trans (B1.out.mono (by simp))⟩
  · obtain ⟨T, hT⟩ : ∃ T, T = txt5 2 := ⟨_, rfl⟩
    obtain ⟨L, hL⟩ : ∃ L, L = lab5 2 := ⟨_, rfl⟩
    have k0 : ByteArray.mk #[97, 61, 50] = bs T := by rw [hT]; rfl
    have P := Lib.hid (fun W => parse5 2 (by decide) W)
    have HL := Lib.hid (show labs n = L by rw [HR.out, hL]; rfl)
    rw [← hT, ← hL] at P
    clear hT hL HR
    go_enter Tryz.func22, Tryz.ntmps22
    go_wp2_with fail
    refine (P.out _).mono ?_
    rintro e w1 ⟨v, rfl, s1, b1⟩
    obtain ⟨a1, c1, e1⟩ := s1.slice
    subst e1
    have S1 := Lib.hid s1
    have B1 := Lib.hid b1
    clear s1 b1
    go_wp2
    go_ret
    rw [HL.out]
    exact ⟨_, rfl, S1.out.mono (by simp), ((Below.refl _ _).alloc (Nat.le_refl _) _).trans (B1.out.mono (by simp))⟩
  · obtain ⟨T, hT⟩ : ∃ T, T = txt5 3 := ⟨_, rfl⟩
    obtain ⟨L, hL⟩ : ∃ L, L = lab5 3 := ⟨_, rfl⟩
    have k0 : ByteArray.mk #[98, 61, 49] = bs T := by rw [hT]; rfl
    have P := Lib.hid (fun W => parse5 3 (by decide) W)
    have HL := Lib.hid (show labs n = L by rw [HR.out, hL]; rfl)
    rw [← hT, ← hL] at P
    clear hT hL HR
    go_enter Tryz.func22, Tryz.ntmps22
    go_wp2_with fail
    refine (P.out _).mono ?_
    rintro e w1 ⟨v, rfl, s1, b1⟩
    obtain ⟨a1, c1, e1⟩ := s1.slice
    subst e1
    have S1 := Lib.hid s1
    have B1 := Lib.hid b1
    clear s1 b1
    go_wp2
    go_ret
    rw [HL.out]
    exact ⟨_, rfl, S1.out.mono (by simp), ((Below.refl _ _).alloc (Nat.le_refl _) _).trans (B1.out.mono (by simp))⟩
  · obtain ⟨T, hT⟩ : ∃ T, T = txt5 4 := ⟨_, rfl⟩
    obtain ⟨L, hL⟩ : ∃ L, L = lab5 4 := ⟨_, rfl⟩
    have k0 : ByteArray.mk #[106, 111, 98, 61, 120] = bs T := by rw [hT]; rfl
    have P := Lib.hid (fun W => parse5 4 (by decide) W)
    have HL := Lib.hid (show labs n = L by rw [HR.out, hL]; rfl)
    rw [← hT, ← hL] at P
    clear hT hL HR
    go_enter Tryz.func22, Tryz.ntmps22
    go_wp2_with fail
    refine (P.out _).mono ?_
    rintro e w1 ⟨v, rfl, s1, b1⟩
    obtain ⟨a1, c1, e1⟩ := s1.slice
    subst e1
    have S1 := Lib.hid s1
    have B1 := Lib.hid b1
    clear s1 b1
    go_wp2
    go_ret
    rw [HL.out]
    exact ⟨_, rfl, S1.out.mono (by simp), ((Below.refl _ _).alloc (Nat.le_refl _) _).trans (B1.out.mono (by simp))⟩
end Go.Proofs.YtfckgcckpfklaaaGreatDoor

namespace Go.Proofs.YtfckgcckpfklaaaGreatDoor
open Go.RowKit Go.Lib
set_option linter.unusedVariables false

theorem zc_prow : (Tryz.prog.info? 43).map (fun i => (i.zero, i.size, i.bytes)) = some (some (.agg #[.slice none 0 0, .slice none 0 0]), 2, 48) := by kernel_rfl

set_option maxHeartbeats 4000000 in
set_option maxRecDepth 100000 in
theorem rows14_any (tv : Value) (l : List Rw) (K : Nat) (w : World) (h : TabR w K tv l) (hm : l.length ≤ 1000) (hK : K ≤ 10000) :
    Calls Tryz.prog 38 #[tv] w fun e w' => ∃ v', e = .returned v' ∧ TabF w' w.heap.size K v' l ∧ Below w.heap.size w w' := by
  obtain ⟨i0, hi, hz0, hz1, hz2⟩ := info_parts zc_prow
  have Hz := Lib.hid hz0; have Hs := Lib.hid hz1; have Hb := Lib.hid hz2; have Hi := Lib.hid hi
  clear hz0 hz1 hz2 hi
  obtain ⟨i1, hi, hz0, hz1, hz2⟩ := info_parts zc_pair
  have Pz := Lib.hid hz0; have Ps := Lib.hid hz1; have Pb := Lib.hid hz2; have Pi := Lib.hid hi
  clear hz0 hz1 hz2 hi
  obtain ⟨i2, hi, hz0, hz1, hz2⟩ := info_parts zc_smp
  have Sz := Lib.hid hz0; have Ss := Lib.hid hz1; have Sb := Lib.hid hz2; have Si := Lib.hid hi
  clear hz0 hz1 hz2 hi
  obtain ⟨-, qs0, hqs, ⟨_, a, cap, g, off, rfl, hg, hc⟩, hok⟩ := h
  obtain ⟨n, hn⟩ : ∃ n, n = l.length := ⟨_, rfl⟩
  rw [← hn] at hg hc hm ⊢
  have hq0 : qs0.length = n := by rw [hn, ← hqs, List.length_map]
  have HN := Lib.hid hn
  have HC := Lib.hid hc
  have HG := Lib.hid hg
  have HQ0 := Lib.hid hq0
  have HOK := Lib.hid hok
  have HQS := Lib.hid hqs
  have S0 : TabN (w.alloc (.cells #[] 43)) w.heap.size K (.slice (some ⟨w.heap.size, 0, none⟩) 0 0) [] := ⟨Sl.lit w w.heap.size 2 0 #[] _ (Nat.le_refl _) (by decide) rfl, fun q hq => absurd hq (by simp)⟩
  have BA : Below w.heap.size w (w.alloc (.cells #[] 43)) := (Below.refl _ _).alloc (Nat.le_refl _) _
  clear hn hc hg hq0 hok hqs
  go_enter Tryz.func38, Tryz.ntmps38
  go_wp2_with fail
  go_loopw [3, 5, 6, 8, 12, 15, 16, 17, 18, 19, 20, 21, 22, 23, 24, 25, 26, 27] (fun p' x' s' y' i' _ _ _ _ _ _ _ _ _ _ _ _ _ wr => ∃ (i : Nat) (qs : List Rq), i' = .int .i64 i ∧ i ≤ n ∧ Hid (qs.map Rq.r = l.take i ∧ ∀ q ∈ qs, Capd q.b q.r.ss.length ∧ (∀ k, q.a.ownBlock = some k → w.heap.size ≤ k) ∧ ∀ k, q.b.ownBlock = some k → w.heap.size ≤ k) ∧ TabN wr w.heap.size K p' qs ∧ Below w.heap.size w wr) (fun _ _ _ _ i' _ _ _ _ _ _ _ _ _ _ _ _ _ _ => n - (intOf i').toNat)
  case atStart => exact ⟨0, [], rfl, by omega, Lib.hid ⟨rfl, fun q hq => absurd hq (by simp)⟩, S0, BA⟩
  case round =>
    clear S0 BA
    obtain ⟨W0, rfl⟩ : ∃ W0, W0 = wr := ⟨_, rfl⟩
    obtain ⟨i, qs, rfl, hi, hof, hown, hb⟩ := hrel
    have hbz := hb.size
    have hol : qs.length = i := by
      have := congrArg List.length hof.out.1
      rw [List.length_map, List.length_take] at this
      have := HN.out
      omega
    obtain ⟨oa, oc, he⟩ := hown.sl.slice
    subst he
    have HOB := Lib.hid (fun k hk => (hown.sl.lt k hk).2)
    have HOB1 := Lib.hid (fun k hk => (hown.sl.lt k hk).1)
    rw [hol] at hown HOB HOB1 ⊢
    have HML := Lib.hid hol.symm
    have BW := Lib.hid hb
    have HOWN := Lib.hid hown
    clear hol hown
    by_cases hlt : i < n
    · obtain ⟨rfl, hgl⟩ := HG.out (by omega)
      obtain ⟨⟨qa, qb, rl, rs⟩, hx⟩ : ∃ q, qs0[i]? = some q := ⟨qs0[i]'(by have := HQ0.out; omega), List.getElem?_eq_getElem (by have := HQ0.out; omega)⟩
      obtain ⟨v0, v1⟩ := rqc_at qs0 i _ hx
      have hli : l[i]? = some ⟨rl, rs⟩ := by rw [← HQS.out, List.getElem?_map, hx]; rfl
      have ok := HOK.out _ (List.mem_of_getElem? hx)
      have q0 := ((hb.cell (p := ⟨g, off + i * 2, none⟩) hgl).trans (HC.out (i * 2) (by omega))).trans v0
      have q1 := ((hb.cell (p := ⟨g, off + (i * 2 + 1), none⟩) hgl).trans (HC.out (i * 2 + 1) (by omega))).trans v1
      rw [← Nat.add_assoc] at q1
      obtain ⟨kl, ks, kn, kk⟩ := ok
      simp only at kl ks kn kk q0 q1
      obtain ⟨aa, ca, ea⟩ := kl.slice
      obtain ⟨ab, cb', eb⟩ := ks.slice
      subst ea eb
      obtain ⟨NL, hNL⟩ : ∃ NL, NL = rl.length := ⟨_, rfl⟩
      obtain ⟨NS, hNS⟩ : ∃ NS, NS = rs.length := ⟨_, rfl⟩
      rw [← hNL] at kl kn q0
      rw [← hNS] at ks kk q1
      have HNL := Lib.hid hNL; have HNS := Lib.hid hNS
      have KS := Lib.hid ks
      have hil : (i : Int) < n := by omega
      have STEP := Lib.hid (show l.take (i + 1) = qs.map Rq.r ++ [⟨rl, rs⟩] by rw [List.take_add_one, hli, hof.out.1]; rfl)
      have HCQ0 := Lib.hid hof.out.2
      obtain ⟨V1, hV1⟩ : ∃ V1, V1 = W0.alloc (.cells #[.slice aa NL ca, .slice ab NS cb'] 87) := ⟨_, rfl⟩
      have b1 : Below W0.heap.size W0 V1 := by rw [hV1]; exact (Below.refl _ _).alloc (Nat.le_refl _) _
      have y1 : V1.heap.size = W0.heap.size + 1 := by rw [hV1]; simp
      have hx1 : V1.heap[W0.heap.size]? = some (.cells #[.slice aa NL ca, .slice ab NS cb'] 87) := by rw [hV1]; exact heap_alloc_new W0 _
      have BV := Lib.hid (BW.out.trans (b1.mono BW.out.size))
      obtain ⟨_, a2, c2, g2, o2, e2, hg2, hc2⟩ := kl.on BV.out
      cases e2
      have HG2 := Lib.hid hg2; have HC2 := Lib.hid hc2
      have HX1 := Lib.hid hx1; have B11 := Lib.hid b1; have HY1 := Lib.hid y1
      have hc0 := Lib.cell_of_heap hx1 0
      clear hx hNL hNS v0 v1 hli ks kl hof hx1 hg2 hc2 b1
      go_upto_region 5 with fail
      rw [← hV1]
      clear hV1 q0 q1
      simp at hc0
      go_wp2_with fail
      clear hc0
      go_loopw [6, 8, 19] (fun s' y' j' wr => ∃ (j : Nat), j' = .int .i64 j ∧ j ≤ NL ∧ Sl wr V1.heap.size 2 s' j (prc (rl.take j)) ∧ Below V1.heap.size V1 wr) (fun _ _ j' _ => NL - (intOf j').toNat)
      case atStart => exact ⟨0, rfl, by omega, Sl.nil _ _ _, Below.refl _ _⟩
      case round =>
        obtain ⟨j, rfl, hj, sj, bj⟩ := hrel
        have hbj := bj.size
        by_cases hjt : j < NL
        · obtain ⟨rfl, hgl2⟩ := HG2.out (by omega)
          obtain ⟨x, hx⟩ : ∃ x, rl[j]? = some x := ⟨rl[j]'(by have := HNL.out; omega), List.getElem?_eq_getElem (by have := HNL.out; omega)⟩
          obtain ⟨v0, v1⟩ := prc_at rl j x hx
          have q0 := ((bj.cell (p := ⟨g2, o2 + j * 2, none⟩) hgl2).trans (HC2.out (j * 2) (by omega))).trans v0
          have q1 := ((bj.cell (p := ⟨g2, o2 + (j * 2 + 1), none⟩) hgl2).trans (HC2.out (j * 2 + 1) (by omega))).trans v1
          rw [← Nat.add_assoc] at q1
          have hjl : (j : Int) < NL := by omega
          have ht := Lib.hid (show rl.take (j + 1) = rl.take j ++ [x] by rw [List.take_add_one, hx]; rfl)
          obtain ⟨sa, sc, es⟩ := sj.slice
          subst es
          obtain ⟨Y, hY⟩ : ∃ Y, Y = (wr.alloc (.cells #[.string (bs x.n), .string (bs x.v)] 118)).alloc (.cells #[.string (bs x.n), .string (bs x.v)] 74) := ⟨_, rfl⟩
          have ownY : Sl Y V1.heap.size 2 (.slice sa j sc) j (prc (rl.take j)) := by rw [hY]; exact (sj.alloc _).alloc _
          have litY : ∀ k u, [Value.string (bs x.n), .string (bs x.v)][k]? = some u → Y.cell? ((⟨wr.heap.size + 1, 0, none⟩ : Addr).add k) = some u := by rw [hY]; exact lit_row _ _ _ _ _ (by simp)
          have bY : Below V1.heap.size V1 Y := by rw [hY]; exact (bj.alloc hbj _).alloc (by simp; omega) _
          have HY := Lib.hid hY
          clear v0 v1 hx hY
          go_wp2_with (at_builtin; rw [← HY.out]; refine wpList_append_sl _ rfl _ _ 36 rfl V1.heap.size 74 i1 (.agg #[.string ⟨#[]⟩, .string ⟨#[]⟩]) 2 32 Tryz.underlying36 Pi.out Pz.out Ps.out Pb.out rfl (by decide) _ j _ rfl ownY ⟨wr.heap.size + 1, 0, none⟩ 1 1 [.string (bs x.n), .string (bs x.v)] rfl rfl litY (prc_one [x]) (by unfold maxLen; omega) (by omega) bY.size ?_; intro v3 w3 hx3)
          refine ⟨⟨j + 1, by simp, by omega, ?_, bY.trans (hx3.below (Nat.le_refl _) bY.size)⟩, by simp [intOf]; omega⟩
          rw [ht.out, prc_append]
          exact hx3.now
        · have hjl : ¬ (j : Int) < NL := by omega
          obtain rfl : j = NL := by omega
          rw [show rl.take j = rl by rw [HNL.out, List.take_length]] at sj
          have hjl2 : (j : Int) = j := rfl
          clear hjl2
          obtain ⟨sa, sc, es⟩ := sj.slice
          subst es
          obtain ⟨A1, hA1⟩ : ∃ A1, A1 = wr.alloc (.cells #[] 34) := ⟨_, rfl⟩
          have bA : Below wr.heap.size wr A1 := by rw [hA1]; exact (Below.refl _ _).alloc (Nat.le_refl _) _
          have slA : Sl A1 wr.heap.size 2 (.slice (some ⟨wr.heap.size, 0, none⟩) 0 0) 0 [] := by rw [hA1]; exact Sl.lit wr wr.heap.size 2 0 #[] _ (Nat.le_refl _) (by decide) rfl
          have BwA := BV.out.trans ((bj.trans (bA.mono hbj)).mono BV.out.size)
          have rdA := KS.out.on BwA
          have hcR := bj.block W0.heap.size (by have := HY1.out; omega)
          have hxR := hcR.trans HX1.out
          have hR1 := Lib.cell_of_heap hxR 1
          simp at hR1
          have hR1 := (bA.cell (p := ⟨W0.heap.size, 1, none⟩) (by have := HY1.out; show W0.heap.size < wr.heap.size; omega)).trans hR1
          rw [hA1] at hR1
          have zA := bA.size
          have OUTW : Below W0.heap.size W0 A1 := B11.out.trans ((bj.trans (bA.mono hbj)).mono B11.out.size)
          have HOW := Lib.hid OUTW
          have SJ := Lib.hid sj; have BA := Lib.hid bA; have BJ := Lib.hid bj
          have HA1 := Lib.hid hA1
          have hsj : ∀ k, (Value.slice sa j sc).ownBlock = some k → V1.heap.size ≤ k := fun k hk => (sj.lt k hk).1
          have HSJ := Lib.hid hsj
          have hy1 := HY1.out
          clear hA1 sj bA bj OUTW hcR hxR hsj BwA
          go_wp2_with (first
            | (at_builtin; rw [← HA1.out]; refine wpList_append_rd _ rfl _ _ 41 rfl wr.heap.size 34 i2 (.agg #[.int .i64 0, .int .u64 0]) 2 16 Tryz.underlying41 Si.out Sz.out Ss.out Sb.out rfl (by decide) _ 0 [] rfl slA (.slice ab NS cb') NS (spc rs) rfl rdA (spc_one _) (by unfold maxLen; omega) (by omega) zA ?_; intro v5 w5 x5; have x5n := x5.now; rw [Nat.zero_add, List.nil_append] at x5n; have HC5 := Lib.hid x5n.capd; obtain ⟨a5, c5, e5⟩ := x5n.slice; have e5' : v5 = .slice a5 NS c5 := e5; subst e5'; have b5 : Below wr.heap.size wr w5 := BA.out.trans (x5.below (Nat.le_refl _) zA); have z5 := b5.size; obtain ⟨Y2, hY2⟩ : ∃ Y2, Y2 = w5.alloc (.cells #[.slice sa j sc, .slice a5 NS c5] 43) := ⟨_, rfl⟩; have b52 : Below w5.heap.size w5 Y2 := (by rw [hY2]; exact (Below.refl _ _).alloc (Nat.le_refl _) _); have bwY : Below wr.heap.size wr Y2 := b5.trans (b52.mono b5.size); have bVY : Below V1.heap.size V1 Y2 := BJ.out.trans (bwY.mono hbj); have b0Y : Below W0.heap.size W0 Y2 := B11.out.trans (bVY.mono B11.out.size); have bw : Below w.heap.size w Y2 := BW.out.trans (b0Y.mono BW.out.size); have T6 := HOWN.out.on b0Y; have litY2 : ∀ j' u, [.slice sa j sc, .slice a5 NS c5][j']? = some u → Y2.cell? ((⟨w5.heap.size, 0, none⟩ : Addr).add j') = some u := (by rw [hY2]; exact lit_row w5 _ _ _ _ rfl); have slY2 := T6.sl; rw [← HML.out] at slY2; have HY2 := Lib.hid hY2; have HT6 := Lib.hid T6; have OKR : RowOk Y2 K ⟨.slice sa j sc, .slice a5 NS c5, ⟨rl, rs⟩⟩ := ⟨(by rw [← HNL.out]; exact (Rd.of_sl SJ.out).on bwY), (by rw [← HNS.out]; exact (Rd.of_sl x5n).on b52), (by have := HNL.out; show rl.length ≤ 1000; omega), (by have := HNS.out; show rs.length ≤ K; omega)⟩; have HOKR := Lib.hid OKR; have hlow : ∀ k, (Value.slice a5 NS c5).ownBlock = some k → wr.heap.size ≤ k := (fun k hk => (x5n.lt k hk).1); have HLOW := Lib.hid hlow; clear hY2 x5 x5n T6 OKR hlow e5)
            | (at_builtin; rw [← HY2.out]; refine wpList_append_sl _ rfl _ _ 24 rfl w.heap.size 43 i0 (.agg #[.slice none 0 0, .slice none 0 0]) 2 48 Tryz.underlying24 Hi.out Hz.out Hs.out Hb.out rfl (by decide) _ i _ rfl slY2 ⟨w5.heap.size, 0, none⟩ 1 1 [.slice sa j sc, .slice a5 NS c5] rfl rfl litY2 (row_one _ _ _ _ _ _) (by unfold maxLen; omega) (by omega) bw.size ?_; intro v6 w6 hx6))
          have hx7 : Ext w.heap.size 2 Y2 (.slice oa i oc) i (rqc qs) w6 v6 (i + 1) (rqc qs ++ [.slice sa j sc, .slice a5 NS c5]) := hx6
          have T8 := tab_push HML.out HT6.out hx7 HOKR.out (by rw [← HNL.out]; exact off_gt (k0 := W0.heap.size) (fun k hk => by have := HSJ.out k hk; omega) HOB.out) (by rw [← HNS.out]; exact off_gt (k0 := W0.heap.size) (fun k hk => by have := HLOW.out k hk; omega) HOB.out)
          have HCN := Lib.hid (show ∀ q ∈ qs ++ [⟨.slice sa j sc, .slice a5 NS c5, ⟨rl, rs⟩⟩], Capd q.b q.r.ss.length ∧ (∀ k, q.a.ownBlock = some k → w.heap.size ≤ k) ∧ ∀ k, q.b.ownBlock = some k → w.heap.size ≤ k from fun q hq => by
            rcases List.mem_append.1 hq with hq | hq
            · exact HCQ0.out q hq
            · rw [List.mem_singleton] at hq
              subst hq
              have := HC5.out
              rw [HNS.out] at this
              rw [HNS.out]
              refine ⟨this, fun k hk => ?_, fun k hk => ?_⟩
              · have := HSJ.out k hk; omega
              · rw [← HNS.out] at hk
                have := HLOW.out k hk; omega)
          refine ⟨⟨i + 1, qs ++ [⟨.slice sa j sc, .slice a5 NS c5, ⟨rl, rs⟩⟩], by simp, by omega, Lib.hid ⟨by rw [STEP.out, List.map_append]; rfl, HCN.out⟩, T8, bw.trans (hx7.below (Nat.le_refl _) bw.size)⟩, by simp [intOf]; omega⟩
    · have hil : ¬ (i : Int) < n := by omega
      obtain rfl : i = n := by omega
      have HOF := Lib.hid (show qs.map Rq.r = l by rw [hof.out.1, HN.out, List.take_length])
      have HCQ := Lib.hid hof.out.2
      clear hof
      go_wp2
      go_ret
      exact ⟨_, rfl, by have h := HOWN.out.readF (by have := HML.out; omega) HCQ.out; rw [HOF.out] at h; exact h, BW.out⟩
end Go.Proofs.YtfckgcckpfklaaaGreatDoor

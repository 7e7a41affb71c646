/- The document's disk: Crash. -/
import Derived.Test.YtnjoojffefhgpaaMJ9
import Derived.Test.YtnjoojffefhgpaaMD12
namespace Go.Proofs.Ytnjoojffefhgpaa
open Go.Conc Go.RowKit Go.Lib
set_option linter.unusedVariables false

/-- So many bytes are left of a file. -/
def leftR (x : Rj) (c : Int) : Nat := x.tm.toNat + (c % ((x.data.size - x.tm.toNat : Nat) + 1 : Int)).toNat
def looseR (x : Rj) : Nat := x.data.size - x.tm.toNat
def crR (x : Rj) (c : Int) : Rj := if looseR x = 0 then x else ⟨x.name, x.data.extract 0 (leftR x c), (min (leftR x c) x.data.size : Nat)⟩
/-- What a crash leaves, k choices being spent. -/
def crashR (cs : List Int) : Nat → List Rj → List Rj
  | _, [] => []
  | k, x :: xs => crR x (cs.getD k 0) :: crashR cs (if looseR x = 0 then k else k + 1) xs
/-- So many choices are spent. -/
def spentR : Nat → List Rj → Nat
  | k, [] => k
  | k, x :: xs => spentR (if looseR x = 0 then k else k + 1) xs
theorem crashR_snoc (cs : List Int) : ∀ (k : Nat) (xs : List Rj) (x : Rj), crashR cs k (xs ++ [x]) = crashR cs k xs ++ [crR x (cs.getD (spentR k xs) 0)]
  | k, [], x => rfl
  | k, y :: ys, x => by
    show crR y _ :: crashR cs _ (ys ++ [x]) = _
    rw [crashR_snoc cs _ ys x]
    rfl
theorem spentR_snoc : ∀ (k : Nat) (xs : List Rj) (x : Rj), spentR k (xs ++ [x]) = if looseR x = 0 then spentR k xs else spentR k xs + 1
  | k, [], x => rfl
  | k, y :: ys, x => by
    show spentR _ (ys ++ [x]) = _
    rw [spentR_snoc _ ys x]
    rfl
theorem crashR_len (cs : List Int) : ∀ (k : Nat) (xs : List Rj), (crashR cs k xs).length = xs.length
  | k, [] => rfl
  | k, y :: ys => by
    show (crashR cs _ ys).length + 1 = ys.length + 1
    rw [crashR_len cs _ ys]
theorem spentR_le : ∀ (k : Nat) (xs : List Rj), spentR k xs ≤ k + xs.length
  | k, [] => Nat.le_refl _
  | k, y :: ys => by
    show spentR _ ys ≤ _
    refine Nat.le_trans (spentR_le _ ys) ?_
    rw [List.length_cons]
    split <;> omega
theorem crash_step (cs : List Int) (xs : List Rj) (j : Nat) (x : Rj) (h : xs[j]? = some x) : crashR cs 0 (xs.take (j + 1)) = crashR cs 0 (xs.take j) ++ [crR x (cs.getD (spentR 0 (xs.take j)) 0)] ∧ spentR 0 (xs.take (j + 1)) = if looseR x = 0 then spentR 0 (xs.take j) else spentR 0 (xs.take j) + 1 := by
  rw [List.take_add_one, h]
  exact ⟨crashR_snoc cs 0 _ x, spentR_snoc 0 _ x⟩
theorem leftR_le (x : Rj) (c : Int) (h0 : 0 ≤ x.tm) (h : x.tm ≤ x.data.size) : leftR x c ≤ x.data.size := by
  unfold leftR
  have h1 : 0 ≤ c % ((x.data.size - x.tm.toNat : Nat) + 1 : Int) := Int.emod_nonneg _ (by omega)
  have h2 : c % ((x.data.size - x.tm.toNat : Nat) + 1 : Int) < ((x.data.size - x.tm.toNat : Nat) + 1 : Int) := Int.emod_lt_of_pos _ (by omega)
  omega
set_option maxHeartbeats 2000000 in
set_option maxRecDepth 100000 in
theorem rcrash_any (base : Nat) (v : Value) (rm : Int) (u : Value) (xs : List Rj) (vc : Value) (cs : List Int) (w : World) (hs : Sl w base 3 v xs.length (rjc xs)) (hlen : xs.length ≤ 900) (hu : ∃ a n c, u = .slice a n c) (hd : ∀ x ∈ xs, x.data.size ≤ 1000000 ∧ 0 ≤ x.tm ∧ x.tm ≤ x.data.size)
    (hi : IntsIn w vc cs) (hr : Reach cs) (hg : 0 < cs.length → ∀ k, vc.ownBlock = some k → k < w.heap.size) :
    Calls Try.prog 26 #[rdv v rm u, vc] w fun e w' => ∃ v', e = .returned (rdv v' rm (.slice none 0 0)) ∧ Sl w' w.heap.size 3 v' xs.length (rjc (crashR cs 0 xs)) ∧ Below w.heap.size w w' := by
  obtain ⟨ua, un, uc, rfl⟩ := hu
  obtain ⟨a, cap, gl, ol, rfl, hlp, hcl⟩ := sl_open3 hs
  obtain ⟨n, hn⟩ : ∃ n, n = xs.length := ⟨_, rfl⟩
  rw [← hn] at hlp hcl hlen ⊢
  have HN := Lib.hid hn
  have HDD := Lib.hid hd
  have HR := Lib.hid hr
  obtain ⟨vca, vcc, rfl, hvc1, hvc2⟩ := hi
  obtain ⟨cn, hcn⟩ : ∃ cn, cn = cs.length := ⟨_, rfl⟩
  rw [← hcn] at hg hvc1 hvc2 ⊢
  have HCN := Lib.hid hcn
  have hcm : cn ≤ 9223372036854775807 := by rw [hcn]; exact hr.1
  unfold rdv
  obtain ⟨i0, hi, hz0, hz1, hz2⟩ := info_parts zc_file
  have Hz := Lib.hid hz0; have Hs := Lib.hid hz1; have Hb := Lib.hid hz2; have Hi := Lib.hid hi
  clear hz0 hz1 hz2 hi hn hs hd hr hcn hvc1
  go_enter Try.func26, Try.ntmps26
  go_wp2_with fail
  obtain ⟨V2, hV2⟩ : ∃ V, V = (w.alloc (.cells #[.slice a n cap, .int .i64 rm, .slice none 0 0] 30)).alloc (.cells #[.slice none 0 0, .int .i64 0, .slice none 0 0] 30) := ⟨_, rfl⟩
  have z2 : V2.heap.size = w.heap.size + 2 := by rw [hV2]; simp
  have hb0 : V2.heap[w.heap.size]? = some (.cells #[.slice a n cap, .int .i64 rm, .slice none 0 0] 30) := by
    rw [hV2, Below.heap_alloc _ _ _ (by simp)]
    exact heap_alloc_new w _
  have hb1 : V2.heap[w.heap.size + 1]? = some (.cells #[.slice none 0 0, .int .i64 0, .slice none 0 0] 30) := by
    rw [hV2]
    have := heap_alloc_new (w.alloc (.cells #[.slice a n cap, .int .i64 rm, .slice none 0 0] 30)) (.cells #[.slice none 0 0, .int .i64 0, .slice none 0 0] 30)
    rw [show (w.alloc (.cells #[.slice a n cap, .int .i64 rm, .slice none 0 0] 30)).heap.size = w.heap.size + 1 by simp] at this
    exact this
  have hfr : ∀ o, V2.frozen? ⟨w.heap.size, o, none⟩ = false ∧ V2.frozen? ⟨w.heap.size + 1, o, none⟩ = false := fun o => ⟨by simp only [World.frozen?, hb0]; rfl, by simp only [World.frozen?, hb1]; rfl⟩
  have hd1 : V2.cell? ⟨w.heap.size, 0, none⟩ = some (.slice a n cap) := by rw [cell_of_row _ _ 0 _ _ _ hb0]; rfl
  have hd0m : V2.cell? ⟨w.heap.size, 1, none⟩ = some (.int .i64 rm) := by rw [cell_of_row _ _ 1 _ _ _ hb0]; rfl
  have hd0 : V2.cell? ⟨w.heap.size, 2, none⟩ = some (.slice none 0 0) := by rw [cell_of_row _ _ 2 _ _ _ hb0]; rfl
  have hd2 : V2.cell? ⟨w.heap.size + 1, 0, none⟩ = some (.slice none 0 0) := by rw [cell_of_row _ _ 0 _ _ _ hb1]; rfl
  have hd3m : V2.cell? ⟨w.heap.size + 1, 1, none⟩ = some (.int .i64 0) := by rw [cell_of_row _ _ 1 _ _ _ hb1]; rfl
  have hd3 : V2.cell? ⟨w.heap.size + 1, 2, none⟩ = some (.slice none 0 0) := by rw [cell_of_row _ _ 2 _ _ _ hb1]; rfl
  have HFR := Lib.hid hfr
  clear hfr hb0 hb1
  rw [← hV2]
  rw [show w.heap.size + 1 + 1 = V2.heap.size by omega]
  have bV : Below w.heap.size w V2 := by rw [hV2]; exact ((Below.refl _ _).alloc (Nat.le_refl _) _).alloc (by simp) _
  have HZ2 := Lib.hid z2
  have HV2 := Lib.hid hV2
  clear z2 hV2
  go_loopw [5, 6, 17] (fun vo vk vj wr => ∃ j : Nat, vj = .int .i64 j ∧ j ≤ n ∧ vk = .int .i64 (spentR 0 (xs.take j) : Nat) ∧ Sl wr V2.heap.size 3 vo j (rjc (crashR cs 0 (xs.take j))) ∧ Below V2.heap.size V2 wr) (fun _ _ vj _ => n - (RowKit.intOf vj).toNat)
  case atStart => exact ⟨0, rfl, by omega, rfl, Sl.lit V2 _ 3 0 #[] _ (Nat.le_refl _) (by decide) rfl, (Below.refl _ _).alloc (Nat.le_refl _) _⟩
  case round =>
    obtain ⟨j, rfl, hj, rfl, hso, b7⟩ := hrel
    by_cases hjn : j < n
    · obtain ⟨rfl, hlg, hgl⟩ := hlp (by omega)
      obtain ⟨x, hx⟩ : ∃ x, xs[j]? = some x := ⟨xs[j]'(by have := HN.out; omega), List.getElem?_eq_getElem (by have := HN.out; omega)⟩
      obtain ⟨v0, v1, v2⟩ := rjc_at xs j x hx
      have bw : Below w.heap.size w wr := bV.trans (b7.mono (by have := HZ2.out; omega))
      have q0 := ((bw.cell (p := ⟨gl, ol + j * 3, none⟩) hgl).trans (hcl (j * 3) (by omega))).trans v0
      have q1 := ((bw.cell (p := ⟨gl, ol + (j * 3 + 1), none⟩) hgl).trans (hcl (j * 3 + 1) (by omega))).trans v1
      have q2 := ((bw.cell (p := ⟨gl, ol + (j * 3 + 2), none⟩) hgl).trans (hcl (j * 3 + 2) (by omega))).trans v2
      rw [← Nat.add_assoc] at q1 q2
      have hjn' : (j : Int) < n := by omega
      obtain ⟨st1, st2⟩ := crash_step cs xs j x hx
      obtain ⟨d1, d2, d3⟩ := HDD.out x (List.mem_of_getElem? hx)
      obtain ⟨xn, xd, xt⟩ := x
      simp only at v0 v1 v2 q0 q1 q2 d1 d2 d3
      obtain ⟨t, rfl⟩ : ∃ t : Nat, xt = t := ⟨xt.toNat, by omega⟩
      obtain ⟨sp, hsp⟩ : ∃ sp, sp = spentR 0 (xs.take j) := ⟨_, rfl⟩
      rw [← hsp] at st1 st2 ⊢
      have hspn : sp ≤ 900 := by rw [hsp]; have h1 := spentR_le 0 (xs.take j); rw [List.length_take] at h1; omega
      obtain ⟨C, hC⟩ : ∃ C, C = crashR cs 0 (xs.take j) := ⟨_, rfl⟩
      rw [← hC] at st1 hso
      have HST1 := Lib.hid st1
      have HST2 := Lib.hid st2
      have HSP := Lib.hid hsp
      have HCC := Lib.hid hC
      have HX := Lib.hid hx
      obtain ⟨va, vcp, rfl⟩ := hso.slice
      have hsz := b7.size
      have n1 : j + 1 ≤ maxLen := by unfold maxLen; omega
      have n2 : (j + 1) * 40 ≤ 140737488355328 := by omega
      clear hcl hlp v0 v1 v2 st1 st2 hsp hC hx
      -- ways
      have HSO := Lib.hid hso
      by_cases hz : (xd.size : Int) = t
      · have hzi : ¬ (0 : Int) < (xd.size : Int) - t := by omega
        have hz0 : xd.size - t = 0 := by omega
        have HZ := Lib.hid hz0
        have hlo0 : looseR ⟨xn, xd, (t : Int)⟩ = 0 := hz0
        have HL0 := Lib.hid hlo0
        clear hz hz0 hlo0
        have eC : crashR cs 0 (xs.take (j + 1)) = C ++ [⟨xn, xd, (t : Int)⟩] := by rw [HST1.out]; rw [crR, if_pos HL0.out]
        have hone : ∀ y ∈ [Value.string xn, .string (xd), .int .i64 ((t : Int))], y.oneCell' = true := rjc_one ⟨xn, xd, (t : Int)⟩
        obtain ⟨Y, hY⟩ : ∃ Y, Y = ((wr.alloc (.cells #[.string xn, .string (xd), .int .i64 ((t : Int))] 85)).alloc (.cells #[.string xn, .string (xd), .int .i64 ((t : Int))] 85)) := ⟨_, rfl⟩
        have hownY : Sl Y V2.heap.size 3 (.slice va j vcp) j (rjc C) := by rw [hY]; exact (hso.alloc _).alloc _
        have hlit : Sl Y V2.heap.size 3 (.slice (some ⟨wr.heap.size + 1, 0, none⟩) 1 1) 1 [.string xn, .string (xd), .int .i64 ((t : Int))] := by
          have := Sl.lit (wr.alloc (.cells #[.string xn, .string (xd), .int .i64 ((t : Int))] 85)) V2.heap.size 3 1 #[.string xn, .string (xd), .int .i64 ((t : Int))] 85 (Nat.le_trans hsz (by simp)) (by decide) rfl
          rw [show (wr.alloc (.cells #[.string xn, .string (xd), .int .i64 ((t : Int))] 85)).heap.size = wr.heap.size + 1 by simp] at this
          rw [hY]
          exact this
        have bY : Below V2.heap.size V2 Y := by rw [hY]; exact ((b7.alloc hsz _).alloc (Nat.le_trans hsz (by simp)) _)
        have n3 : V2.heap.size ≤ Y.heap.size := bY.size
        have HY := Lib.hid hY
        have EC := Lib.hid eC
        rw [hY] at hownY hlit n3
        clear hY eC
        go_wp2_with (at_builtin; refine wpList_append_sl2 _ rfl _ _ 25 rfl V2.heap.size 85 i0 (.agg #[.string ByteArray.empty, .string ByteArray.empty, .int .i64 0]) 3 40 Try.underlying25 Hi.out Hz.out Hs.out Hb.out rfl (by decide) _ j _ rfl hownY V2.heap.size _ 1 [.string xn, .string (xd), .int .i64 ((t : Int))] rfl hlit hone n1 n2 n3 ?_; intro v' w5 hx5; rw [← HY.out] at hx5)
        have n4 : V2.heap.size ≤ Y.heap.size := bY.size
        refine ⟨⟨j + 1, by go_num, by omega, by rw [HST2.out]; rw [if_pos HL0.out], ?_, bY.trans (hx5.below (Nat.le_refl _) n4)⟩, by simp [RowKit.intOf]; omega⟩
        rw [EC.out, rjc_append]
        exact hx5.now
      · have hzi : (0 : Int) < (xd.size : Int) - t := by omega
        have hlo1 : ¬ looseR ⟨xn, xd, (t : Int)⟩ = 0 := fun h => by
          have h' : xd.size - t = 0 := h
          omega
        have HL1 := Lib.hid hlo1
        obtain ⟨c, hc⟩ : ∃ c, c = cs.getD sp 0 := ⟨_, rfl⟩
        have hlr : (leftR ⟨xn, xd, (t : Int)⟩ c : Int) = t + c % ((xd.size : Int) - t + 1) := by
          unfold leftR
          simp only [Int.toNat_natCast]
          rw [show ((xd.size - t : Nat) : Int) + 1 = ((xd.size : Int) - t + 1) by omega]
          have := Int.emod_nonneg c (show ((xd.size : Int) - t + 1) ≠ 0 by omega)
          omega
        have hll : leftR ⟨xn, xd, (t : Int)⟩ c ≤ xd.size := leftR_le _ c (by simp only; omega) (by simp only; omega)
        have hce : ∀ M : Int, M = t + c % ((xd.size : Int) - t + 1) → crR ⟨xn, xd, (t : Int)⟩ (cs.getD sp 0) = ⟨xn, xd.extract 0 M.toNat, ((min M.toNat xd.size : Nat) : Int)⟩ := fun M hM => by
          rw [crR, if_neg HL1.out, ← hc, show leftR ⟨xn, xd, (t : Int)⟩ c = M.toNat by omega]
        have hes : ∀ M : Int, (xd.extract 0 M.toNat).size ≤ 1000000 := fun M => by rw [ByteArray.size_extract]; omega
        have HCE := Lib.hid hce
        have HES := Lib.hid hes
        have HC := Lib.hid hc
        clear hc hce hes hlo1
        by_cases hk : sp < cn
        · have hki : (sp : Int) < cn := by omega
          obtain ⟨g, off, rfl, hcx⟩ := hvc2 (by omega)
          have hgw := hg (by omega) g rfl
          have qc := ((bw.cell (p := ⟨g, off + sp, none⟩) hgw).trans (hcx sp hk))
          rw [← HC.out] at qc
          have qc2 : (wr.alloc (.cells #[.string xn, .string xd, .int .i64 (t : Int)] 85)).cell? ⟨g, off + sp, none⟩ = some (.int .i64 c) := (World.cell?_alloc_past _ _ _ (show g < wr.heap.size from Nat.lt_of_lt_of_le hgw bw.size)).trans qc
          have hcr : -9223372036854775808 ≤ c ∧ c ≤ 9223372036854775807 := by
            rw [HC.out, List.getD_eq_getElem?_getD]
            obtain ⟨c', hc'⟩ : ∃ c', cs[sp]? = some c' := ⟨cs[sp]'(by have := HCN.out; omega), List.getElem?_eq_getElem (by have := HCN.out; omega)⟩
            rw [hc']
            exact HR.out.2 c' (List.mem_of_getElem? hc')
          have hl0 : (0 : Int) < ((xd.size : Int) - t + 1) := by omega
          have hl1 : ((xd.size : Int) - t + 1) ≤ 1000001 := by omega
          have hln : ¬ ((xd.size : Int) - t + 1) = 0 := by omega
          have t1 : c.tmod ((xd.size : Int) - t + 1) < ((xd.size : Int) - t + 1) := Int.tmod_lt_of_pos c hl0
          have t2 : -((xd.size : Int) - t + 1) < c.tmod ((xd.size : Int) - t + 1) := by have := Int.lt_tmod_of_pos c hl0; omega
          have t4 : c % ((xd.size : Int) - t + 1) = c.tmod ((xd.size : Int) - t + 1) % ((xd.size : Int) - t + 1) := by
            have t3 := Int.mul_tdiv_add_tmod c ((xd.size : Int) - t + 1)
            rw [show c.tmod ((xd.size : Int) - t + 1) = c + ((xd.size : Int) - t + 1) * (-(c.tdiv ((xd.size : Int) - t + 1))) by rw [Int.mul_neg]; omega, Int.add_mul_emod_self_left]
          have T4 := Lib.hid t4
          clear t4 hvc2 hg hcx
          by_cases hneg : c.tmod ((xd.size : Int) - t + 1) < 0
          · have e : c % ((xd.size : Int) - t + 1) = c.tmod ((xd.size : Int) - t + 1) + ((xd.size : Int) - t + 1) := by
              rw [T4.out, ← Int.add_emod_right]
              exact Int.emod_eq_of_lt (by omega) (by omega)
            have em := HCE.out ((t : Int) + (c.tmod ((xd.size : Int) - t + 1) + ((xd.size : Int) - t + 1))) (by rw [e])
            have h9 : (t : Int) + (c.tmod ((xd.size : Int) - t + 1) + ((xd.size : Int) - t + 1)) ≤ xd.size := by rw [← e, ← hlr]; omega
            rw [show ((min ((t : Int) + (c.tmod ((xd.size : Int) - t + 1) + ((xd.size : Int) - t + 1))).toNat xd.size : Nat) : Int) = max ((t : Int) + (c.tmod ((xd.size : Int) - t + 1) + ((xd.size : Int) - t + 1))) 0 by omega] at em
            have EM := Lib.hid em
            clear em
            clear e hlr hll HCE
            have eC : crashR cs 0 (xs.take (j + 1)) = C ++ [⟨xn, xd.extract 0 ((t : Int) + (c.tmod ((xd.size : Int) - t + 1) + ((xd.size : Int) - t + 1))).toNat, (max ((t : Int) + (c.tmod ((xd.size : Int) - t + 1) + ((xd.size : Int) - t + 1))) 0)⟩] := by rw [HST1.out]; rw [EM.out]
            have hone : ∀ y ∈ [Value.string xn, .string (xd.extract 0 ((t : Int) + (c.tmod ((xd.size : Int) - t + 1) + ((xd.size : Int) - t + 1))).toNat), .int .i64 ((max ((t : Int) + (c.tmod ((xd.size : Int) - t + 1) + ((xd.size : Int) - t + 1))) 0))], y.oneCell' = true := rjc_one ⟨xn, xd.extract 0 ((t : Int) + (c.tmod ((xd.size : Int) - t + 1) + ((xd.size : Int) - t + 1))).toNat, (max ((t : Int) + (c.tmod ((xd.size : Int) - t + 1) + ((xd.size : Int) - t + 1))) 0)⟩
            obtain ⟨Y, hY⟩ : ∃ Y, Y = ((wr.alloc (.cells #[.string xn, .string (xd.extract 0 ((t : Int) + (c.tmod ((xd.size : Int) - t + 1) + ((xd.size : Int) - t + 1))).toNat), .int .i64 ((max ((t : Int) + (c.tmod ((xd.size : Int) - t + 1) + ((xd.size : Int) - t + 1))) 0))] 85)).alloc (.cells #[.string xn, .string (xd.extract 0 ((t : Int) + (c.tmod ((xd.size : Int) - t + 1) + ((xd.size : Int) - t + 1))).toNat), .int .i64 ((max ((t : Int) + (c.tmod ((xd.size : Int) - t + 1) + ((xd.size : Int) - t + 1))) 0))] 85)) := ⟨_, rfl⟩
            have hownY : Sl Y V2.heap.size 3 (.slice va j vcp) j (rjc C) := by rw [hY]; exact (hso.alloc _).alloc _
            have hlit : Sl Y V2.heap.size 3 (.slice (some ⟨wr.heap.size + 1, 0, none⟩) 1 1) 1 [.string xn, .string (xd.extract 0 ((t : Int) + (c.tmod ((xd.size : Int) - t + 1) + ((xd.size : Int) - t + 1))).toNat), .int .i64 ((max ((t : Int) + (c.tmod ((xd.size : Int) - t + 1) + ((xd.size : Int) - t + 1))) 0))] := by
              have := Sl.lit (wr.alloc (.cells #[.string xn, .string (xd.extract 0 ((t : Int) + (c.tmod ((xd.size : Int) - t + 1) + ((xd.size : Int) - t + 1))).toNat), .int .i64 ((max ((t : Int) + (c.tmod ((xd.size : Int) - t + 1) + ((xd.size : Int) - t + 1))) 0))] 85)) V2.heap.size 3 1 #[.string xn, .string (xd.extract 0 ((t : Int) + (c.tmod ((xd.size : Int) - t + 1) + ((xd.size : Int) - t + 1))).toNat), .int .i64 ((max ((t : Int) + (c.tmod ((xd.size : Int) - t + 1) + ((xd.size : Int) - t + 1))) 0))] 85 (Nat.le_trans hsz (by simp)) (by decide) rfl
              rw [show (wr.alloc (.cells #[.string xn, .string (xd.extract 0 ((t : Int) + (c.tmod ((xd.size : Int) - t + 1) + ((xd.size : Int) - t + 1))).toNat), .int .i64 ((max ((t : Int) + (c.tmod ((xd.size : Int) - t + 1) + ((xd.size : Int) - t + 1))) 0))] 85)).heap.size = wr.heap.size + 1 by simp] at this
              rw [hY]
              exact this
            have bY : Below V2.heap.size V2 Y := by rw [hY]; exact ((b7.alloc hsz _).alloc (Nat.le_trans hsz (by simp)) _)
            have n3 : V2.heap.size ≤ Y.heap.size := bY.size
            have HY := Lib.hid hY
            have EC := Lib.hid eC
            rw [hY] at hownY hlit n3
            clear hY eC
            go_wp2_with (at_builtin; refine wpList_append_sl2 _ rfl _ _ 25 rfl V2.heap.size 85 i0 (.agg #[.string ByteArray.empty, .string ByteArray.empty, .int .i64 0]) 3 40 Try.underlying25 Hi.out Hz.out Hs.out Hb.out rfl (by decide) _ j _ rfl hownY V2.heap.size _ 1 [.string xn, .string (xd.extract 0 ((t : Int) + (c.tmod ((xd.size : Int) - t + 1) + ((xd.size : Int) - t + 1))).toNat), .int .i64 ((max ((t : Int) + (c.tmod ((xd.size : Int) - t + 1) + ((xd.size : Int) - t + 1))) 0))] rfl hlit hone n1 n2 n3 ?_; intro v' w5 hx5; rw [← HY.out] at hx5)
            have n4 : V2.heap.size ≤ Y.heap.size := bY.size
            refine ⟨⟨j + 1, by go_num, by omega, by rw [HST2.out]; rw [if_neg HL1.out]; go_num, ?_, bY.trans (hx5.below (Nat.le_refl _) n4)⟩, by simp [RowKit.intOf]; omega⟩
            rw [EC.out, rjc_append]
            exact hx5.now
          · have e : c % ((xd.size : Int) - t + 1) = c.tmod ((xd.size : Int) - t + 1) := by
              rw [T4.out]
              exact Int.emod_eq_of_lt (by omega) (by omega)
            have em := HCE.out ((t : Int) + c.tmod ((xd.size : Int) - t + 1)) (by rw [e])
            have h9 : (t : Int) + c.tmod ((xd.size : Int) - t + 1) ≤ xd.size := by rw [← e, ← hlr]; omega
            rw [show ((min ((t : Int) + c.tmod ((xd.size : Int) - t + 1)).toNat xd.size : Nat) : Int) = max ((t : Int) + c.tmod ((xd.size : Int) - t + 1)) 0 by omega] at em
            have EM := Lib.hid em
            clear em
            clear e hlr hll HCE
            have eC : crashR cs 0 (xs.take (j + 1)) = C ++ [⟨xn, xd.extract 0 ((t : Int) + c.tmod ((xd.size : Int) - t + 1)).toNat, (max ((t : Int) + c.tmod ((xd.size : Int) - t + 1)) 0)⟩] := by rw [HST1.out]; rw [EM.out]
            have hone : ∀ y ∈ [Value.string xn, .string (xd.extract 0 ((t : Int) + c.tmod ((xd.size : Int) - t + 1)).toNat), .int .i64 ((max ((t : Int) + c.tmod ((xd.size : Int) - t + 1)) 0))], y.oneCell' = true := rjc_one ⟨xn, xd.extract 0 ((t : Int) + c.tmod ((xd.size : Int) - t + 1)).toNat, (max ((t : Int) + c.tmod ((xd.size : Int) - t + 1)) 0)⟩
            obtain ⟨Y, hY⟩ : ∃ Y, Y = ((wr.alloc (.cells #[.string xn, .string (xd.extract 0 ((t : Int) + c.tmod ((xd.size : Int) - t + 1)).toNat), .int .i64 ((max ((t : Int) + c.tmod ((xd.size : Int) - t + 1)) 0))] 85)).alloc (.cells #[.string xn, .string (xd.extract 0 ((t : Int) + c.tmod ((xd.size : Int) - t + 1)).toNat), .int .i64 ((max ((t : Int) + c.tmod ((xd.size : Int) - t + 1)) 0))] 85)) := ⟨_, rfl⟩
            have hownY : Sl Y V2.heap.size 3 (.slice va j vcp) j (rjc C) := by rw [hY]; exact (hso.alloc _).alloc _
            have hlit : Sl Y V2.heap.size 3 (.slice (some ⟨wr.heap.size + 1, 0, none⟩) 1 1) 1 [.string xn, .string (xd.extract 0 ((t : Int) + c.tmod ((xd.size : Int) - t + 1)).toNat), .int .i64 ((max ((t : Int) + c.tmod ((xd.size : Int) - t + 1)) 0))] := by
              have := Sl.lit (wr.alloc (.cells #[.string xn, .string (xd.extract 0 ((t : Int) + c.tmod ((xd.size : Int) - t + 1)).toNat), .int .i64 ((max ((t : Int) + c.tmod ((xd.size : Int) - t + 1)) 0))] 85)) V2.heap.size 3 1 #[.string xn, .string (xd.extract 0 ((t : Int) + c.tmod ((xd.size : Int) - t + 1)).toNat), .int .i64 ((max ((t : Int) + c.tmod ((xd.size : Int) - t + 1)) 0))] 85 (Nat.le_trans hsz (by simp)) (by decide) rfl
              rw [show (wr.alloc (.cells #[.string xn, .string (xd.extract 0 ((t : Int) + c.tmod ((xd.size : Int) - t + 1)).toNat), .int .i64 ((max ((t : Int) + c.tmod ((xd.size : Int) - t + 1)) 0))] 85)).heap.size = wr.heap.size + 1 by simp] at this
              rw [hY]
              exact this
            have bY : Below V2.heap.size V2 Y := by rw [hY]; exact ((b7.alloc hsz _).alloc (Nat.le_trans hsz (by simp)) _)
            have n3 : V2.heap.size ≤ Y.heap.size := bY.size
            have HY := Lib.hid hY
            have EC := Lib.hid eC
            rw [hY] at hownY hlit n3
            clear hY eC
            go_wp2_with (at_builtin; refine wpList_append_sl2 _ rfl _ _ 25 rfl V2.heap.size 85 i0 (.agg #[.string ByteArray.empty, .string ByteArray.empty, .int .i64 0]) 3 40 Try.underlying25 Hi.out Hz.out Hs.out Hb.out rfl (by decide) _ j _ rfl hownY V2.heap.size _ 1 [.string xn, .string (xd.extract 0 ((t : Int) + c.tmod ((xd.size : Int) - t + 1)).toNat), .int .i64 ((max ((t : Int) + c.tmod ((xd.size : Int) - t + 1)) 0))] rfl hlit hone n1 n2 n3 ?_; intro v' w5 hx5; rw [← HY.out] at hx5)
            have n4 : V2.heap.size ≤ Y.heap.size := bY.size
            refine ⟨⟨j + 1, by go_num, by omega, by rw [HST2.out]; rw [if_neg HL1.out]; go_num, ?_, bY.trans (hx5.below (Nat.le_refl _) n4)⟩, by simp [RowKit.intOf]; omega⟩
            rw [EC.out, rjc_append]
            exact hx5.now
        · have hki : ¬ (sp : Int) < cn := by omega
          have hc0 : c = 0 := by
            rw [HC.out, List.getD_eq_getElem?_getD, List.getElem?_eq_none (by have := HCN.out; omega)]
            rfl
          have EM := Lib.hid (HCE.out (t : Int) (by rw [hc0]; simp))
          have hes := HES.out (t : Int)
          rw [Int.toNat_natCast] at hes
          have EM2 := Lib.hid (show crR ⟨xn, xd, (t : Int)⟩ (cs.getD sp 0) = ⟨xn, xd.extract 0 t, ((min t xd.size : Nat) : Int)⟩ from EM.out)
          clear hlr hll HCE hc0 hvc2 hg EM
          have eC : crashR cs 0 (xs.take (j + 1)) = C ++ [⟨xn, xd.extract 0 t, ((min t xd.size : Nat) : Int)⟩] := by rw [HST1.out]; rw [EM2.out]
          have hone : ∀ y ∈ [Value.string xn, .string (xd.extract 0 t), .int .i64 (((min t xd.size : Nat) : Int))], y.oneCell' = true := rjc_one ⟨xn, xd.extract 0 t, ((min t xd.size : Nat) : Int)⟩
          obtain ⟨Y, hY⟩ : ∃ Y, Y = ((wr.alloc (.cells #[.string xn, .string (xd.extract 0 t), .int .i64 (((min t xd.size : Nat) : Int))] 85)).alloc (.cells #[.string xn, .string (xd.extract 0 t), .int .i64 (((min t xd.size : Nat) : Int))] 85)) := ⟨_, rfl⟩
          have hownY : Sl Y V2.heap.size 3 (.slice va j vcp) j (rjc C) := by rw [hY]; exact (hso.alloc _).alloc _
          have hlit : Sl Y V2.heap.size 3 (.slice (some ⟨wr.heap.size + 1, 0, none⟩) 1 1) 1 [.string xn, .string (xd.extract 0 t), .int .i64 (((min t xd.size : Nat) : Int))] := by
            have := Sl.lit (wr.alloc (.cells #[.string xn, .string (xd.extract 0 t), .int .i64 (((min t xd.size : Nat) : Int))] 85)) V2.heap.size 3 1 #[.string xn, .string (xd.extract 0 t), .int .i64 (((min t xd.size : Nat) : Int))] 85 (Nat.le_trans hsz (by simp)) (by decide) rfl
            rw [show (wr.alloc (.cells #[.string xn, .string (xd.extract 0 t), .int .i64 (((min t xd.size : Nat) : Int))] 85)).heap.size = wr.heap.size + 1 by simp] at this
            rw [hY]
            exact this
          have bY : Below V2.heap.size V2 Y := by rw [hY]; exact ((b7.alloc hsz _).alloc (Nat.le_trans hsz (by simp)) _)
          have n3 : V2.heap.size ≤ Y.heap.size := bY.size
          have HY := Lib.hid hY
          have EC := Lib.hid eC
          rw [hY] at hownY hlit n3
          clear hY eC
          go_wp2_with (at_builtin; refine wpList_append_sl2 _ rfl _ _ 25 rfl V2.heap.size 85 i0 (.agg #[.string ByteArray.empty, .string ByteArray.empty, .int .i64 0]) 3 40 Try.underlying25 Hi.out Hz.out Hs.out Hb.out rfl (by decide) _ j _ rfl hownY V2.heap.size _ 1 [.string xn, .string (xd.extract 0 t), .int .i64 (((min t xd.size : Nat) : Int))] rfl hlit hone n1 n2 n3 ?_; intro v' w5 hx5; rw [← HY.out] at hx5)
          have n4 : V2.heap.size ≤ Y.heap.size := bY.size
          refine ⟨⟨j + 1, by go_num, by omega, by rw [HST2.out]; rw [if_neg HL1.out]; go_num, ?_, bY.trans (hx5.below (Nat.le_refl _) n4)⟩, by simp [RowKit.intOf]; omega⟩
          rw [EC.out, rjc_append]
          exact hx5.now
    · have hjn' : ¬ (j : Int) < n := by omega
      clear hcl hlp
      obtain rfl : j = n := by omega
      rw [List.take_of_length_le (by have := HN.out; omega)] at hso
      obtain ⟨va, vc, rfl⟩ := hso.slice
      have z2 := HZ2.out
      have k0 := (b7.cell (p := ⟨w.heap.size, 0, none⟩) (by simp only; omega)).trans hd1
      have k1m := (b7.cell (p := ⟨w.heap.size, 1, none⟩) (by simp only; omega)).trans hd0m
      have k1 := (b7.cell (p := ⟨w.heap.size, 2, none⟩) (by simp only; omega)).trans hd0
      have k2 := (b7.cell (p := ⟨w.heap.size + 1, 0, none⟩) (by simp only; omega)).trans hd2
      have k3m := (b7.cell (p := ⟨w.heap.size + 1, 1, none⟩) (by simp only; omega)).trans hd3m
      have k3 := (b7.cell (p := ⟨w.heap.size + 1, 2, none⟩) (by simp only; omega)).trans hd3
      have f0 := (b7.frozen (p := ⟨w.heap.size, 0, none⟩) (by simp only; omega)).trans (HFR.out 0).1
      have f2 := (b7.frozen (p := ⟨w.heap.size + 1, 0, none⟩) (by simp only; omega)).trans (HFR.out 0).2
      have f3m := (b7.frozen (p := ⟨w.heap.size + 1, 1, none⟩) (by simp only; omega)).trans (HFR.out 1).2
      have f3 := (b7.frozen (p := ⟨w.heap.size + 1, 2, none⟩) (by simp only; omega)).trans (HFR.out 2).2
      clear z2 hd0 hd1 hd2 hd3 hd0m hd3m
      go_wp2_with fail
      have z2 := HZ2.out
      obtain ⟨W6, hW6⟩ : ∃ W6, W6 = (((wr.setCell ⟨w.heap.size, 0, none⟩ (.slice va j vc)).setCell ⟨w.heap.size + 1, 0, none⟩ (.slice va j vc)).setCell ⟨w.heap.size + 1, 1, none⟩ (.int .i64 rm)).setCell ⟨w.heap.size + 1, 2, none⟩ (.slice none 0 0) := ⟨_, rfl⟩
      have hne : w.heap.size + 1 ≠ w.heap.size := by omega
      have c0 : W6.cell? ⟨w.heap.size + 1, 0, none⟩ = some (.slice va j vc) := by
        rw [hW6, cell_setCell_other _ _ _ _ _ (.inr (by simp)), cell_setCell_other _ _ _ _ _ (.inr (by simp))]
        exact cell_setCell_same _ _ _ _ (by rw [cell_setCell_other _ _ _ _ _ (.inl hne), k2]; rfl)
      have c1 : W6.cell? ⟨w.heap.size + 1, 1, none⟩ = some (.int .i64 rm) := by
        rw [hW6, cell_setCell_other _ _ _ _ _ (.inr (by simp))]
        exact cell_setCell_same _ _ _ _ (by rw [cell_setCell_other _ _ _ _ _ (.inr (by simp)), cell_setCell_other _ _ _ _ _ (.inl hne), k3m]; rfl)
      have c2 : W6.cell? ⟨w.heap.size + 1, 2, none⟩ = some (.slice none 0 0) := by
        rw [hW6]
        exact cell_setCell_same _ _ _ _ (by rw [cell_setCell_other _ _ _ _ _ (.inr (by simp)), cell_setCell_other _ _ _ _ _ (.inr (by simp)), cell_setCell_other _ _ _ _ _ (.inl hne), k3]; rfl)
      have hs6 : Sl W6 w.heap.size 3 (.slice va j vc) j (rjc (crashR cs 0 xs)) := by
        rw [hW6]
        refine (hso.mono (by omega)).same (by simp [World.setCell]) fun i hi => ?_
        have hlt := (hso.lt i hi).1
        rw [Below.heap_setCell _ _ _ _ (by simp only; omega), Below.heap_setCell _ _ _ _ (by simp only; omega), Below.heap_setCell _ _ _ _ (by simp only; omega), Below.heap_setCell _ _ _ _ (by simp only; omega)]
      have hb6 : Below w.heap.size w W6 := by
        rw [hW6]
        exact ((((bV.trans (b7.mono (by omega))).setCell (p := ⟨w.heap.size, 0, none⟩) (Nat.le_refl _) _).setCell (p := ⟨w.heap.size + 1, 0, none⟩) (by simp only; omega) _).setCell (p := ⟨w.heap.size + 1, 1, none⟩) (by simp only; omega) _).setCell (p := ⟨w.heap.size + 1, 2, none⟩) (by simp only; omega) _
      rw [← hW6]
      refine bodyPost_ret (by simp [results, Try.results26, go_sem, c0, c1, c2]; rfl) rfl ?_
      exact ⟨_, rfl, hs6, hb6⟩
end Go.Proofs.Ytnjoojffefhgpaa

/- Layer 16: the samples of chunks, walked. -/
import Derived.Test.YtajkleknjjpldaaDoorMFB
import Derived.Test.YtajkleknjjpldaaDoorMKA
import Derived.BigQuiet
namespace Go.Proofs.YtajkleknjjpldaaDoor
open Go.RowKit Go.Lib

set_option maxRecDepth 100000 in
theorem chunk_any (C : Nat) (l : List Xo.Sm) (w : World) (hg : Xo.Good l) (hl : 0 < l.length) (hT : Tabs C w) :
    Calls Tryd.prog 18 #[.agg #[.int .u8 4, .string (bs (Xo.text l))]] w fun e w' => ∃ a cap, e = .returned (.tuple #[.slice a l.length cap, .bool true]) ∧ Sl w' w.heap.size 2 (.slice a l.length cap) l.length (smc l) ∧ Below w.heap.size w w' := by
  have hB : Below w.heap.size w (w.alloc (.cells #[.int .u8 4, .string (bs (Xo.text l))] 34)) := (Below.refl _ _).alloc (Nat.le_refl _) _
  have SG := Lib.hid (samples_good C l _ hg (hT.below hB hT.hB))
  have HB := Lib.hid hB
  obtain ⟨S, hS⟩ : ∃ S, S = bs (Xo.text l) := ⟨_, rfl⟩
  rw [← hS] at SG HB ⊢
  obtain ⟨n, hn⟩ : ∃ n, n = l.length := ⟨_, rfl⟩
  rw [← hn] at SG hl ⊢
  clear hS hB hT hg hn
  have hl' : (0 : Int) < n := by omega
  go_enter Tryd.func18, Tryd.ntmps18
  go_wp2_with fail
  refine SG.out.mono ?_
  rintro e w1 ⟨a1, c1, rfl, s1, b1⟩
  go_wp2
  go_ret2
  exact ⟨a1, c1, rfl, s1.mono HB.out.size, HB.out.trans (b1.mono HB.out.size)⟩

theorem smc_appendE (a b : List Xo.Sm) : smc (a ++ b) = smc a ++ smc b := by simp [smc]
theorem bi_smE : (Tryd.prog.info? 27).map (fun i => (i.zero, i.size, i.bytes)) = some (some (.agg #[.int .i64 0, .int .u64 0]), 2, 16) := by kernel_rfl
theorem rc_at (rs : List Fr.Rc) : ∀ (i : Nat) (r : Fr.Rc), rs[i]? = some r → (rc rs)[i * 2]? = some (.int .u8 r.1.toNat) ∧ (rc rs)[i * 2 + 1]? = some (.string (bs r.2)) := by
  induction rs with
  | nil => intro i r h; simp at h
  | cons x xs ih =>
    intro i r h
    cases i with
    | zero => simp only [List.getElem?_cons_zero, Option.some.injEq] at h; subst h; exact ⟨rfl, rfl⟩
    | succ i =>
      have := ih i r (by simpa using h)
      have e1 : (i + 1) * 2 = i * 2 + 2 := by omega
      have e : rc (x :: xs) = [.int .u8 x.1.toNat, .string (bs x.2)] ++ rc xs := rfl
      rw [e1, e, List.getElem?_append_right (by simp), List.getElem?_append_right (by simp)]
      simpa using this
/-- The first and the last of samples, as cells. -/
theorem smE_cell {w : World} {base g off n cap : Nat} {l : List Xo.Sm} (h : Sl w base 2 (.slice (some ⟨g, off, none⟩) n cap) n (smc l)) (j : Nat) (s : Xo.Sm) (hj : l[j]? = some s) : w.cell? ⟨g, off + j * 2, none⟩ = some (.int .i64 s.1) := by
  have h0 := h.cells _ _ (smc_at l j s hj).1
  rw [Addr.add_lit] at h0
  exact h0

theorem flat_takeE (ls : List (List Xo.Sm)) (i : Nat) (l : List Xo.Sm) (h : ls[i]? = some l) : (ls.take (i + 1)).flatten = (ls.take i).flatten ++ l := by
  rw [List.take_add_one, h, List.flatten_append]; simp
theorem flat_preE (ls : List (List Xo.Sm)) (i : Nat) : ∃ r, ls.flatten = (ls.take i).flatten ++ r := ⟨(ls.drop i).flatten, by rw [← List.flatten_append, List.take_append_drop]⟩
theorem Ri.pre {l m : List Xo.Sm} (h : Ri l) (hp : ∃ r, l = m ++ r) : Ri m := by
  obtain ⟨r, rfl⟩ := hp
  exact ⟨fun s hs => h.1 s (List.mem_append_left _ hs), h.2.sublist (List.sublist_append_left _ _)⟩

set_option maxHeartbeats 2000000 in
set_option maxRecDepth 100000 in
theorem chunks_any (C : Nat) (ls : List (List Xo.Sm)) (w : World) (hg : ∀ p ∈ ls, Xo.Good p ∧ 0 < p.length) (hr : Ri ls.flatten) (hn : ls.length ≤ 100) (hT : Tabs C w) :
    Calls Tryd.prog 7 #[.string (bs (Fr.laid (recsOf ls)))] w fun e w' => ∃ v, e = .returned (.tuple #[v, .int .i64 0]) ∧ Sl w' w.heap.size 2 v ls.flatten.length (smc ls.flatten) ∧ Below w.heap.size w w' := by
  obtain ⟨i0, hi, hz0, hz1, hz2⟩ := info_parts bi_smE
  have Hz := Lib.hid hz0; have Hs := Lib.hid hz1; have Hb := Lib.hid hz2; have Hi := Lib.hid hi
  clear hz0 hz1 hz2 hi
  have hlen := recs_len ls (fun p hp => (hg p hp).1)
  have AL := all_any (Fr.laid (recsOf ls)) w (by omega)
  rw [all_recs ls (fun p hp => (hg p hp).1)] at AL
  unfold Alld at AL
  rw [recsOf_length] at AL
  have AL := Lib.hid AL
  have hsz := bs_size (Fr.laid (recsOf ls))
  obtain ⟨S, hS⟩ : ∃ S, S = bs (Fr.laid (recsOf ls)) := ⟨_, rfl⟩
  obtain ⟨N, hN⟩ : ∃ N, N = (Fr.laid (recsOf ls)).length := ⟨_, rfl⟩
  rw [← hS, ← hN] at AL hsz
  rw [← hS]
  have hNS : ¬ ((N : Int) - ([] : List UInt8).length < S.size) := by rw [hsz]; simp
  have HNS := Lib.hid hNS
  have flt : ∀ k, k ≤ ls.length → ((ls.take k).flatten).length ≤ 12000 := by
    intro k hk
    have : ∀ ps : List (List Xo.Sm), (∀ p ∈ ps, p.length ≤ 120) → ps.flatten.length ≤ 120 * ps.length := by
      intro ps
      induction ps with
      | nil => intro _; simp
      | cons p ps ih => intro h; have := ih (fun q hq => h q (by simp [hq])); have := h p (by simp); simp only [List.flatten_cons, List.length_append, List.length_cons]; omega
    have := this (ls.take k) (fun p hp => (hg p (List.mem_of_mem_take hp)).1.1)
    rw [List.length_take] at this
    omega
  clear hS hlen hN
  obtain ⟨n, hnn⟩ : ∃ n, n = ls.length := ⟨_, rfl⟩
  rw [← hnn] at AL hn flt
  have HNN := Lib.hid hnn
  clear hnn hNS hsz
  go_enter Tryd.func7, Tryd.ntmps7
  go_wp2_with fail
  refine AL.out.mono ?_
  rintro e w1 ⟨rv, rfl, s1, b1⟩
  obtain ⟨ra, rk, rfl⟩ := s1.slice
  have hT1 := Lib.hid (hT.below b1 hT.hB)
  have hC := hT.hB
  have nlt : decide (N < S.size) = false := by have := HNS.out; simp at this ⊢; omega
  have zC : C ≤ w1.heap.size := Nat.le_trans hC b1.size
  clear AL
  go_wp2_with fail
  clear nlt
  go_loopw [6, 22] (fun a' i' wr => ∃ (k : Nat), i' = .int .i64 k ∧ k ≤ n ∧ Sl wr w1.heap.size 2 a' (ls.take k).flatten.length (smc (ls.take k).flatten) ∧ Below w1.heap.size w1 wr) (fun _ i' _ => n - (RowKit.intOf i').toNat)
  case atStart => exact ⟨0, rfl, by omega, Sl.nil _ _ _, Below.refl _ _⟩
  case round =>
    obtain ⟨k, rfl, hk, sl, hb⟩ := hrel
    by_cases hlt : k < n
    · obtain ⟨p, hp⟩ : ∃ p, ls[k]? = some p := ⟨ls[k]'(by have := HNN.out; omega), List.getElem?_eq_getElem (by have := HNN.out; omega)⟩
      have hgp := hg p (List.mem_of_getElem? hp)
      have F1 := flat_takeE ls k p hp
      have hm1 := flt (k + 1) (by omega)
      have hRi : Ri (ls.take (k + 1)).flatten := hr.pre (flat_preE ls (k + 1))
      rw [F1] at hm1 hRi
      rw [List.length_append] at hm1
      obtain ⟨Q, hQ⟩ : ∃ Q, Q = (ls.take k).flatten := ⟨_, rfl⟩
      rw [← hQ] at sl F1 hm1 hRi
      have F1 := Lib.hid F1
      obtain ⟨g, off, rfl⟩ : ∃ g off, ra = some ⟨g, off, none⟩ := by
        rcases s1.2 with ⟨h0, _⟩ | ⟨g, off, cap', he, _⟩
        · cases h0; omega
        · cases he; exact ⟨g, off, rfl⟩
      have hgl := (s1.lt g rfl).2
      have hrp : (recsOf ls)[k]? = some (4, Xo.text p) := by simp [recsOf, hp]
      have hrc := rc_at (recsOf ls) k _ hrp
      have u0 := s1.cells _ _ hrc.1
      have u1 := s1.cells _ _ hrc.2
      rw [Addr.add_lit] at u0 u1
      have c0 : wr.cell? ⟨g, off + k * 2, none⟩ = some (.int .u8 4) := (hb.cell (p := ⟨g, off + k * 2, none⟩) hgl).trans u0
      have c1 : wr.cell? ⟨g, off + k * 2 + 1, none⟩ = some (.string (bs (Xo.text p))) := (hb.cell (p := ⟨g, off + k * 2 + 1, none⟩) hgl).trans u1
      have CH := Lib.hid (fun W (hT : Tabs C W) => chunk_any C p W hgp.1 hgp.2 hT)
      obtain ⟨T, hTt⟩ : ∃ T, T = bs (Xo.text p) := ⟨_, rfl⟩
      rw [← hTt] at c1 CH
      have HTr := Lib.hid (hT1.out.below hb zC)
      have zr := hb.size
      clear hrc hrp hp hTt hQ u0 u1
      obtain ⟨m, hm⟩ : ∃ m, m = Q.length := ⟨_, rfl⟩
      rw [← hm] at sl hm1
      have HM := Lib.hid hm
      obtain ⟨a6, k6, rfl⟩ := sl.slice
      obtain ⟨⟨tp, vp⟩, hp0⟩ : ∃ q, p[0]? = some q := ⟨_, List.getElem?_eq_getElem hgp.2⟩
      have hpl := hgp.2
      obtain ⟨np, hnp⟩ : ∃ np, np = p.length := ⟨_, rfl⟩
      have AW : Below wr.heap.size wr (wr.alloc (.cells #[.int .u8 4, .string T] 34)) := (Below.refl _ _).alloc (Nat.le_refl _) _
      have CW := Lib.hid (CH.out _ (HTr.out.below AW (Nat.le_trans zC zr)))
      have AW := Lib.hid AW
      rw [← hnp] at CW hpl hm1
      have HNP := Lib.hid hnp
      clear CH hnp
      go_wp2_with fail
      refine CW.out.mono ?_
      rintro e w3 ⟨a3, k3, rfl, s3, b3⟩
      have b3 := Lib.hid (AW.out.trans (b3.mono AW.out.size))
      have s3 := s3.mono (base' := wr.heap.size) AW.out.size
      have sl3 := sl.on b3.out
      obtain ⟨g3, o3, rfl⟩ : ∃ g off, a3 = some ⟨g, off, none⟩ := by
        rcases s3.2 with ⟨h0, _⟩ | ⟨g, off, cap', he, _⟩
        · cases h0; omega
        · cases he; exact ⟨g, off, rfl⟩
      have d0 := smE_cell s3 0 _ hp0
      rw [Nat.zero_mul, Nat.add_zero] at d0
      simp only at d0
      have n1 : m + np ≤ maxLen := by unfold maxLen; omega
      have n2 : (m + np) * 16 ≤ 140737488355328 := by omega
      have z3 := b3.out.size
      rcases Nat.eq_zero_or_pos m with h0 | h0
      · subst h0
        have hpl0 : (0 : Int) < (np : Int) := by omega
        clear CW hRi d0 hm
        go_wp2_with fail
        go_quiet (fail)
        have bq := below_draw (Below.refl w3.heap.size w3) nq
        have sl4 := sl3.on bq
        have rd4 := (Rd.of_sl s3).on bq
        have hb4 := Lib.hid ((hb.trans (b3.out.mono hb.size)).trans (bq.mono (Nat.le_trans hb.size z3)))
        have zz := hb4.out.size
        go_wp2_with (at_builtin; refine wpList_append_rd _ rfl _ _ 24 rfl w1.heap.size 27 i0 (.agg #[.int .i64 0, .int .u64 0]) 2 16 Tryd.underlying24 Hi.out Hz.out Hs.out Hb.out rfl (by decide) _ 0 _ rfl sl4 _ np _ rfl rd4 (smc_one _) n1 n2 zz ?_; intro v' w5 hx)
        have hx1 := hx.now
        have hb5 := hb4.out.trans (hx.below (Nat.le_refl _) zz)
        have hlq : 0 + np = (ls.take (k + 1)).flatten.length := by rw [F1.out, List.length_append, ← HM.out, ← HNP.out]
        rw [hlq, ← smc_appendE, ← F1.out] at hx1
        exact ⟨⟨k + 1, by go_num, hlt, hx1, hb5⟩, by simp [RowKit.intOf]; omega⟩
      · obtain ⟨m', hmm⟩ : ∃ m', m' = m - 1 := ⟨m - 1, rfl⟩
        obtain ⟨⟨tq, vq⟩, hq0⟩ : ∃ q, Q[m']? = some q := ⟨_, List.getElem?_eq_getElem (by omega)⟩
        have hlt2 : tq < tp := by
          have hpw := hRi.2
          rw [List.pairwise_append] at hpw
          exact hpw.2.2 (tq, vq) (List.mem_of_getElem? hq0) (tp, vp) (List.mem_of_getElem? hp0)
        obtain ⟨g6, o6, rfl⟩ : ∃ g off, a6 = some ⟨g, off, none⟩ := by
          rcases sl3.2 with ⟨h1, h2⟩ | ⟨g, off, cap', he, _⟩
          · omega
          · cases he; exact ⟨g, off, rfl⟩
        have d1 := smE_cell sl3 m' _ hq0
        simp only at d1
        have hle : ¬ tp ≤ tq := by omega
        have hpl0 : (0 : Int) < (np : Int) := by omega
        have hml0 : (0 : Int) < (m : Int) := by omega
        have hsub : (m : Int) - 1 = (m' : Int) := by omega
        have j1 : (m' : Int) < (m : Int) := by omega
        have j2 : (0 : Int) ≤ (m' : Int) := by omega
        clear CW hRi hm hq0 hlt2 hmm
        go_wp2_with fail
        go_quiet (fail)
        have bq := below_draw (Below.refl w3.heap.size w3) nq
        have sl4 := sl3.on bq
        have rd4 := (Rd.of_sl s3).on bq
        have hb4 := Lib.hid ((hb.trans (b3.out.mono hb.size)).trans (bq.mono (Nat.le_trans hb.size z3)))
        have zz := hb4.out.size
        go_wp2_with (at_builtin; refine wpList_append_rd _ rfl _ _ 24 rfl w1.heap.size 27 i0 (.agg #[.int .i64 0, .int .u64 0]) 2 16 Tryd.underlying24 Hi.out Hz.out Hs.out Hb.out rfl (by decide) _ m _ rfl sl4 _ np _ rfl rd4 (smc_one _) n1 n2 zz ?_; intro v' w5 hx)
        have hx1 := hx.now
        have hb5 := hb4.out.trans (hx.below (Nat.le_refl _) zz)
        have hlq : m + np = (ls.take (k + 1)).flatten.length := by rw [F1.out, List.length_append, ← HM.out, ← HNP.out]
        rw [hlq, ← smc_appendE, ← F1.out] at hx1
        exact ⟨⟨k + 1, by go_num, hlt, hx1, hb5⟩, by simp [RowKit.intOf]; omega⟩
    · have hkn : k = n := by omega
      subst hkn
      have hfl : (ls.take k).flatten = ls.flatten := by rw [List.take_of_length_le (by have := HNN.out; omega)]
      rw [hfl] at sl
      have SL := Lib.hid (sl.mono (base' := w.heap.size) b1.size)
      have BB := Lib.hid (b1.trans (hb.mono b1.size))
      clear sl hfl hb b1 s1
      go_wp2_with fail
      go_ret2
      exact ⟨_, rfl, SL.out, BB.out⟩
end Go.Proofs.YtajkleknjjpldaaDoor

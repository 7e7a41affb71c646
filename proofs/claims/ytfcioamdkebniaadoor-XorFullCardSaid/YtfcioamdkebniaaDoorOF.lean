/- Layer 7's statements: lists of samples held against each other; rising samples. -/
import Derived.Test.YtfcioamdkebniaaDoorOE
import Derived.Laws.StructEq
namespace Go.Proofs.YtfcioamdkebniaaDoor
open Go.RowKit Go.Lib Go.Deep Go.ChangeShapes Go.WideShapes

def rstep (p : Int × List Xo.Sm) (s : Xo.Sm) : Int × List Xo.Sm := (p.1 + (1 + s.1 % 1000000000), p.2 ++ [(p.1 + (1 + s.1 % 1000000000), s.2)])
def riseF (l : List Xo.Sm) : Int × List Xo.Sm := l.foldl rstep (0, [])
theorem riseF_snoc (l : List Xo.Sm) (s : Xo.Sm) : riseF (l ++ [s]) = rstep (riseF l) s := by simp [riseF, List.foldl_append]
def rise (l : List Xo.Sm) : List Xo.Sm := (riseF (l.take 20)).2
theorem riseF_ok (l : List Xo.Sm) : Fits l → (riseF l).2.length = l.length ∧ 0 ≤ (riseF l).1 ∧ (riseF l).1 ≤ 1000000000 * l.length ∧ (∀ s ∈ (riseF l).2, 0 ≤ s.1 ∧ s.1 ≤ (riseF l).1 ∧ s.2 < 18446744073709551616) ∧ (riseF l).2.Pairwise (fun a b => a.1 < b.1) := by
  induction l using Xo.snoc_ind with
  | h0 => intro _; simp [riseF]
  | h1 l s ih =>
    intro hf
    obtain ⟨i1, i2, i3, i4, i5⟩ := ih (fun x hx => hf x (by simp [hx]))
    have hs := hf s (by simp)
    have hm0 : 0 ≤ s.1 % 1000000000 := Int.emod_nonneg _ (by decide)
    have hm1 : s.1 % 1000000000 < 1000000000 := Int.emod_lt_of_pos _ (by decide)
    rw [riseF_snoc]
    unfold rstep
    refine ⟨by simp [i1], by simp only; omega, by simp only [List.length_append, List.length_singleton]; omega, fun x hx => ?_, ?_⟩
    · simp only at hx ⊢
      rcases List.mem_append.1 hx with hx | hx
      · have := i4 x hx; omega
      · rw [List.mem_singleton.1 hx]; simp only; omega
    · simp only
      rw [List.pairwise_append]
      refine ⟨i5, List.pairwise_singleton _ _, fun a ha b hb => ?_⟩
      rw [List.mem_singleton.1 hb]
      have := i4 a ha
      simp only
      omega
theorem fits_take {l : List Xo.Sm} (h : Fits l) (n : Nat) : Fits (l.take n) := fun s hs => h s (List.mem_of_mem_take hs)
theorem rise_good {l : List Xo.Sm} (h : Fits l) : Xo.Good (rise l) := by
  obtain ⟨h1, h2, h3, h4, h5⟩ := riseF_ok (l.take 20) (fits_take h 20)
  have hl : (l.take 20).length ≤ 20 := by rw [List.length_take]; omega
  refine ⟨by unfold rise; omega, fun s hs => ?_, h5⟩
  have := h4 s hs
  omega
theorem rise_len (l : List Xo.Sm) (h : Fits l) : (rise l).length = min 20 l.length := by
  have := (riseF_ok (l.take 20) (fits_take h 20)).1
  rw [List.length_take] at this
  exact this

theorem rem_mod (x : Int) : Int.tmod (Int.tmod x 1000000000 + 1000000000) 1000000000 = x % 1000000000 := by
  rcases Int.le_total 0 x with h | h
  · rw [Int.tmod_eq_emod_of_nonneg h, Int.tmod_eq_emod_of_nonneg (by have := Int.emod_nonneg x (show (1000000000 : Int) ≠ 0 by decide); omega)]
    omega
  · have h1 : Int.tmod x 1000000000 = -((-x) % 1000000000) := by
      have := Int.neg_tmod (-x) 1000000000
      rw [Int.neg_neg] at this
      rw [this, Int.tmod_eq_emod_of_nonneg (by omega)]
    rw [h1, Int.tmod_eq_emod_of_nonneg (by omega)]
    omega

theorem two_cells (w : World) (a b : Value) (t : TypeId) : ∀ j u, [a, b][j]? = some u → (w.alloc (.cells #[a, b] t)).cell? ((⟨w.heap.size, 0, none⟩ : Addr).add j) = some u := by
  intro j u hu
  exact (Sl.lit w w.heap.size 2 1 #[a, b] t (Nat.le_refl _) (by decide) rfl).cells j u hu
theorem smc_append (a b : List Xo.Sm) : smc (a ++ b) = smc a ++ smc b := by simp [smc]


set_option maxHeartbeats 1000000 in
set_option maxRecDepth 100000 in
theorem rise_any (ao : Option Addr) (len cap : Nat) (l : List Xo.Sm) (w : World) (h : SmsAt w ao len cap l) :
    Calls Tryd.prog 13 #[.slice ao len cap] w (NewS w (rise l)) := by
  obtain ⟨hl, hf, hxs, a', cap', g, off, hv, hga, hcell⟩ := h
  cases hv
  obtain ⟨i0, hi, hz0, hz1, hz2⟩ := info_parts zc_sm
  have Hz := Lib.hid hz0; have Hs := Lib.hid hz1; have Hb := Lib.hid hz2; have Hi := Lib.hid hi
  clear hz0 hz1 hz2 hi
  have s0 := Sl.lit w w.heap.size 2 0 #[] 25 (Nat.le_refl _) (by decide) rfl
  have b0 : Below w.heap.size w (w.alloc (.cells #[] 25)) := (Below.refl _ _).alloc (Nat.le_refl _) _
  go_enter Tryd.func13, Tryd.ntmps13
  go_wp2_with fail
  go_loopw [3, 4, 5] (fun o' t' i' wr => ∃ (i : Nat) (a1 : Option Addr) (c1 : Nat), i' = .int .i64 i ∧ i ≤ len ∧ i ≤ 20 ∧ t' = .int .i64 (riseF (l.take i)).1 ∧ o' = .slice a1 i c1 ∧ Sl wr w.heap.size 2 (.slice a1 i c1) i (smc (riseF (l.take i)).2) ∧ Below w.heap.size w wr) (fun _ _ i' _ => 20 - (RowKit.intOf i').toNat)
  case atStart => exact ⟨0, _, _, rfl, by omega, by omega, rfl, rfl, s0, b0⟩
  case round =>
    obtain ⟨i, a1, c1, rfl, hi1, hi2, rfl, rfl, sl, hb⟩ := hrel
    have hRF := riseF_ok (l.take i) (fits_take hf i)
    have htl : (l.take i).length ≤ 20 := by rw [List.length_take]; omega
    by_cases hlt : i < len ∧ i < 20
    · obtain ⟨hl1, hl2⟩ := hlt
      obtain ⟨s, hs⟩ : ∃ s, l[i]? = some s := ⟨l[i]'(by omega), List.getElem?_eq_getElem (by omega)⟩
      have hfs := hf s (List.mem_of_getElem? hs)
      obtain ⟨rfl, hgl⟩ := hga (by omega)
      have hcs := smc_at l i s hs
      have c0 := (hb.cell (p := ⟨g, off + i * 2, none⟩) hgl).trans ((hcell (i * 2) (by omega)).trans hcs.1)
      have c1' := (hb.cell (p := ⟨g, off + i * 2 + 1, none⟩) hgl).trans ((hcell (i * 2 + 1) (by omega)).trans hcs.2)
      have htk : l.take (i + 1) = l.take i ++ [s] := by rw [List.take_add_one, hs]; rfl
      obtain ⟨s1, s2⟩ := s
      simp only at c0 c1' hfs
      have hrs : riseF (l.take (i + 1)) = ((riseF (l.take i)).1 + (1 + s1 % 1000000000), (riseF (l.take i)).2 ++ [((riseF (l.take i)).1 + (1 + s1 % 1000000000), s2)]) := by rw [htk, riseF_snoc]; rfl
      obtain ⟨r1, hr1⟩ : ∃ r, r = Int.tmod s1 1000000000 := ⟨_, rfl⟩
      obtain ⟨m, hmm⟩ : ∃ m, m = s1 % 1000000000 := ⟨_, rfl⟩
      have hm0 : 0 ≤ m ∧ m < 1000000000 := by rw [hmm]; omega
      have hrb : -1000000000 < r1 ∧ r1 < 1000000000 := by
        rw [hr1]
        rcases Int.le_total 0 s1 with h | h
        · rw [Int.tmod_eq_emod_of_nonneg h]; omega
        · have h1 : Int.tmod s1 1000000000 = -((-s1) % 1000000000) := by
            have := Int.neg_tmod (-s1) 1000000000
            rw [Int.neg_neg] at this
            rw [this, Int.tmod_eq_emod_of_nonneg (by omega)]
          rw [h1]; omega
      have hr2 : Int.tmod (r1 + 1000000000) 1000000000 = m := by rw [hr1, hmm]; exact rem_mod s1
      rw [← hmm] at hrs
      have hr1' : Int.tmod s1 1000000000 = r1 := hr1.symm
      obtain ⟨t, ht⟩ : ∃ t, t = (riseF (l.take i)).1 := ⟨_, rfl⟩
      obtain ⟨xs, hx⟩ : ∃ xs, xs = (riseF (l.take i)).2 := ⟨_, rfl⟩
      rw [← ht, ← hx] at hRF hrs
      rw [← hx] at sl
      rw [← ht]
      have ht0 : 0 ≤ t ∧ t ≤ 20000000000 := by omega
      have HRS := Lib.hid hrs
      clear hr1 hmm ht hx hRF htk hs hcs hrs
      obtain ⟨hm1, hm2⟩ := hm0
      obtain ⟨hrb1, hrb2⟩ := hrb
      obtain ⟨ht1, ht2⟩ := ht0
      have hwb := hb.size
      have n1 : i + 1 ≤ maxLen := by unfold maxLen; omega
      have n2 : (i + 1) * 16 ≤ 140737488355328 := by omega
      have sla := sl.alloc (.cells #[.int .i64 (t + (1 + m)), .int .u64 s2] 25)
      go_wp2_with (at_builtin; refine wpList_append_sl _ rfl _ _ 32 rfl w.heap.size 25 i0 (.agg #[.int .i64 0, .int .u64 0]) 2 16 Tryd.underlying32 Hi.out Hz.out Hs.out Hb.out rfl (by decide) _ _ _ rfl sla ⟨wr.heap.size, 0, none⟩ 1 1 [_, _] rfl rfl (two_cells _ _ _ _) (by simp [Value.oneCell']) n1 n2 (by simp; omega) ?_; intro v' w1 hx; obtain ⟨a2, c2, rfl⟩ := hx.now.slice)
      refine ⟨⟨i + 1, a2, c2, by go_num, hl1, hl2, by rw [HRS.out], rfl, ?_, ?_⟩, by simp [RowKit.intOf]; omega⟩
      · have := hx.now
        rw [HRS.out, smc_append]
        exact this
      · exact (hb.alloc hb.size _).trans (hx.below (Nat.le_refl _) (by simp; omega))
    · have hil : i = min 20 l.length := by omega
      have htk : l.take i = l.take 20 := by
        rw [hil]
        rcases Nat.le_total 20 l.length with h | h
        · rw [Nat.min_eq_left h]
        · rw [Nat.min_eq_right h, List.take_of_length_le (by omega), List.take_of_length_le (by omega)]
      have HE := Lib.hid (show (riseF (l.take i)).2 = rise l by unfold rise; rw [htk])
      have hil2 : i = (rise l).length := by rw [rise_len l hf, hil]
      have HL := Lib.hid hil2
      have hdec : (¬ (i : Int) < len) ∨ ((i : Int) < len ∧ ¬ (i : Int) < 20) := by omega
      rw [HE.out] at sl
      clear htk hil hil2 hRF htl hlt hxs hcell hi1 hi2
      rcases hdec with hd | ⟨hd, hd2⟩
      · go_wp2_with fail
        go_ret
        exact ⟨a1, c1, by rw [← HL.out]; rfl, by rw [← HL.out]; exact sl, hb⟩
      · go_wp2_with fail
        go_ret
        exact ⟨a1, c1, by rw [← HL.out]; rfl, by rw [← HL.out]; exact sl, hb⟩

theorem sl_sms {w : World} {base g off n cap : Nat} {l : List Xo.Sm} (h : Sl w base 2 (.slice (some ⟨g, off, none⟩) n cap) n (smc l)) (j : Nat) (s1 : Int) (s2 : Nat) (hj : l[j]? = some (s1, s2)) : w.cell? ⟨g, off + j * 2, none⟩ = some (.int .i64 s1) ∧ w.cell? ⟨g, off + j * 2 + 1, none⟩ = some (.int .u64 s2) := by
  have hc := smc_at l j _ hj
  have h0 := h.cells _ _ hc.1
  have h1 := h.cells _ _ hc.2
  rw [add_plain] at h0 h1
  exact ⟨h0, by rw [Nat.add_assoc]; exact h1⟩

set_option maxRecDepth 100000 in
theorem same_any (w : World) (base base2 : Nat) (ao bo : Option Addr) (n c d : Nat) (l : List Xo.Sm) (h1 : Sl w base 2 (.slice ao n c) n (smc l)) (h2 : Sl w base2 2 (.slice bo n d) n (smc l)) (hm : n ≤ 1000000) :
    Calls Tryd.prog 14 #[.slice ao n c, .slice bo n d] w fun e w' => e = .returned (.int .i64 0) ∧ ∃ q, w' = w.drewN q := by
  have hln : l.length = n := by have := h1.1; rw [smc_length] at this; omega
  have HL := Lib.hid hln
  clear hln
  go_enter Tryd.func14, Tryd.ntmps14
  go_wp2
  go_loopw [13] (fun i' wr => ∃ (k q : Nat), i' = .int .i64 k ∧ k ≤ n ∧ wr = w.drewN q) (fun i' _ => n - (RowKit.intOf i').toNat)
  case atStart => exact ⟨0, 0, rfl, by omega, rfl⟩
  case round =>
    obtain ⟨k, q, rfl, hk, rfl⟩ := hrel
    by_cases hlt : k < n
    · obtain ⟨s1, s2, hkd⟩ : ∃ s1 s2, l[k]? = some (s1, s2) := ⟨_, _, List.getElem?_eq_getElem (by have := HL.out; omega)⟩
      obtain ⟨g1, o1, ha⟩ : ∃ g off, ao = some ⟨g, off, none⟩ := by
        rcases h1.2 with ⟨_, h0⟩ | ⟨g, off, cap', he, _⟩
        · omega
        · cases he; exact ⟨g, off, rfl⟩
      obtain ⟨g2, o2, hb⟩ : ∃ g off, bo = some ⟨g, off, none⟩ := by
        rcases h2.2 with ⟨_, h0⟩ | ⟨g, off, cap', he, _⟩
        · omega
        · cases he; exact ⟨g, off, rfl⟩
      subst ha; subst hb
      obtain ⟨p0, p1⟩ := sl_sms h1 k s1 s2 hkd
      obtain ⟨q0, q1⟩ := sl_sms h2 k s1 s2 hkd
      have i1 : (k : Int) < (n : Int) := by omega
      have i2 : (0 : Int) ≤ (k : Int) := by omega
      clear hkd
      go_wp2
      go_quiet (fail)
      go_wp2
      exact ⟨⟨k + 1, _, by go_num, by omega, rfl⟩, by simp [RowKit.intOf]; omega⟩
    · have hkn : k = n := by omega
      subst hkn
      go_wp2
      go_ret
      exact ⟨rfl, _, rfl⟩

set_option maxRecDepth 100000 in
theorem back_any (ao : Option Addr) (len cap : Nat) (l : List Xo.Sm) (w : World) (h : SmsAt w ao len cap l) (hT : Tabs w.heap.size w) :
    Calls Tryd.prog 6 #[.slice ao len cap] w fun e w' => e = .returned (.bool true) ∧ Below w.heap.size w w' := by
  have hg := rise_good h.2.1
  have RI := Lib.hid (rise_any ao len cap l w h)
  obtain ⟨r, hr⟩ : ∃ r, r = rise l := ⟨_, rfl⟩
  rw [← hr] at hg RI
  have OF := Lib.hid (fun v W (b : Below w.heap.size w W) (hv : Rd W 2 v r.length (smc r)) => of_good w.heap.size v r W hv hg (hT.below b (Nat.le_refl _)))
  have SM := Lib.hid (fun W (b : Below w.heap.size w W) => samples_good w.heap.size r W hg (hT.below b (Nat.le_refl _)))
  have AW := Lib.hid (fun W (b : Below w.heap.size w W) => xawake_any w.heap.size W (hT.below b (Nat.le_refl _)))
  have hg1 := hg.1
  clear hr h hT hg
  go_enter Tryd.func6, Tryd.ntmps6
  go_wp2_with fail
  refine RI.out.mono ?_
  rintro e w1 ⟨a1, c1, rfl, sl1, b1⟩
  go_wp2_with fail
  refine (OF.out _ w1 b1 (Rd.of_sl sl1)).mono ?_
  rintro e w2 ⟨rfl, b2⟩
  have b02 := b1.trans (b2.mono b1.size)
  go_wp2_with fail
  refine (SM.out w2 b02).mono ?_
  rintro e w3 ⟨a3, c3, rfl, sl3, b3⟩
  have b03 := b02.trans (b3.mono b02.size)
  go_wp2_with fail
  refine (AW.out w3 b03).mono ?_
  rintro e w4 ⟨rfl, b4⟩
  have b04 := b03.trans (b4.mono b03.size)
  have SA := Lib.hid (same_any w4 _ _ a3 a1 r.length c3 c1 r (sl3.on b4) (((sl1.on b2).on b3).on b4) (by omega))
  go_wp2_with (go_at_call 14; refine SA.out.mono ?_; rintro e w5 ⟨rfl, q, rfl⟩)
  go_ret
  exact ⟨rfl, below_draw b04 _⟩

theorem enc_mono2 {u v : Nat} (h : u ≤ v) : (Leb.encU u).length ≤ (Leb.encU v).length := Leb.enc_mono 9 u v h
theorem text_mono (l : List Xo.Sm) (n : Nat) : (Xo.text (l.take n)).length ≤ (Xo.text l).length := by
  obtain ⟨b, hb⟩ := Xo.bitsL_prefix (l.take n) (l.drop n)
  rw [List.take_append_drop] at hb
  have hle : (Xo.bitsL (l.take n)).length ≤ (Xo.bitsL l).length := by rw [hb, List.length_append]; omega
  have h1 := enc_mono2 hle
  have h2 : (Leb.encU (l.take n).length).length ≤ (Leb.encU l.length).length := enc_mono2 (by rw [List.length_take]; omega)
  unfold Xo.text
  simp only [List.length_append, Bt.pack_length]
  omega
theorem good_take {l : List Xo.Sm} (h : Xo.Good l) (n : Nat) : Xo.Good (l.take n) := Xo.good_prefix (m := l.drop n) (by rw [List.take_append_drop]; exact h)
theorem smc_take (l : List Xo.Sm) (n : Nat) (j : Nat) (hj : j < (l.take n).length * 2) : (smc (l.take n))[j]? = (smc l)[j]? := by
  have e : smc l = smc (l.take n) ++ smc (l.drop n) := by rw [← smc_append, List.take_append_drop]
  rw [e, List.getElem?_append_left (by rw [smc_length]; exact hj)]
theorem rd_take {w : World} {base : Nat} {a : Option Addr} {cap n : Nat} {l : List Xo.Sm} (h : Sl w base 2 (.slice a l.length cap) l.length (smc l)) (hn : n ≤ l.length) : Rd w 2 (.slice a n cap) (l.take n).length (smc (l.take n)) := by
  have e : (l.take n).length = n := by rw [List.length_take]; omega
  obtain ⟨h0, a', cap', g, off, hv, h1, h2⟩ := Rd.of_sl h
  cases hv
  rw [e]
  refine ⟨by rw [smc_length, e], a, cap, g, off, rfl, fun h => h1 (by omega), fun j hj => ?_⟩
  rw [h2 j (by omega), smc_take l n j (by rw [e]; exact hj)]

set_option maxRecDepth 100000 in
theorem less_any (ao : Option Addr) (len cap : Nat) (l : List Xo.Sm) (k : Int) (w : World) (h : SmsAt w ao len cap l) (hk : (Lit.int .i64 k).wf = true) (hT : Tabs w.heap.size w) :
    Calls Tryd.prog 5 #[.slice ao len cap, .int .i64 k] w fun e w' => e = .returned (.bool true) ∧ Below w.heap.size w w' := by
  have hg := rise_good h.2.1
  have hkb := bd_i64 hk
  have RI := Lib.hid (rise_any ao len cap l w h)
  obtain ⟨r, hr⟩ : ∃ r, r = rise l := ⟨_, rfl⟩
  rw [← hr] at hg RI
  have hg1 := hg.1
  obtain ⟨n, hn⟩ : ∃ n : Nat, (n : Int) = min (max k 0) (r.length : Int) := ⟨(min (max k 0) (r.length : Int)).toNat, by omega⟩
  have hnr : n ≤ r.length := by omega
  have hle := text_mono r n
  have OF := Lib.hid (fun v W (b : Below w.heap.size w W) (hv : Rd W 2 v r.length (smc r)) => of_good w.heap.size v r W hv hg (hT.below b (Nat.le_refl _)))
  have OT := Lib.hid (fun v W (b : Below w.heap.size w W) (hv : Rd W 2 v (r.take n).length (smc (r.take n))) => of_good w.heap.size v (r.take n) W hv (good_take hg n) (hT.below b (Nat.le_refl _)))
  have AW := Lib.hid (fun W (b : Below w.heap.size w W) => xawake_any w.heap.size W (hT.below b (Nat.le_refl _)))
  have HN := Lib.hid hn
  have hl1 := bs_size (Xo.text (r.take n))
  have hl2 := bs_size (Xo.text r)
  obtain ⟨S1, hS1⟩ : ∃ S, S = bs (Xo.text (r.take n)) := ⟨_, rfl⟩
  obtain ⟨S2, hS2⟩ : ∃ S, S = bs (Xo.text r) := ⟨_, rfl⟩
  rw [← hS1] at OT hl1
  rw [← hS2] at OF hl2
  have hss : (S1.size : Int) ≤ S2.size := by omega
  clear hr h hT hg hn hl1 hl2 hS1 hS2 hle
  go_enter Tryd.func5, Tryd.ntmps5
  go_wp2_with fail
  refine RI.out.mono ?_
  rintro e w1 ⟨a1, c1, rfl, sl1, b1⟩
  have hmin : min (max k 0) (r.length : Int) = (n : Int) := HN.out.symm
  have hrc : r.length ≤ c1 := by
    rcases sl1.2 with ⟨h, h0⟩ | ⟨g, off, cap', he, _, _, h1, _⟩
    · omega
    · cases he; exact h1
  have hnc : (n : Int) ≤ c1 := by omega
  go_wp2_with fail
  refine (OT.out _ w1 b1 (rd_take sl1 hnr)).mono ?_
  rintro e w2 ⟨rfl, b2⟩
  have b02 := b1.trans (b2.mono b1.size)
  have rd2 := (Rd.of_sl sl1).on b2
  go_wp2_with fail
  refine (OF.out _ w2 b02 rd2).mono ?_
  rintro e w3 ⟨rfl, b3⟩
  have b03 := b02.trans (b3.mono b02.size)
  clear hmin hnc hkb
  go_wp2_with fail
  refine (AW.out w3 b03).mono ?_
  rintro e w4 ⟨rfl, b4⟩
  have b04 := Lib.hid (b03.trans (b4.mono b03.size))
  have hdec : (decide ((S1.size : Int) ≤ S2.size)) = true := by simp; omega
  go_wp2_with fail
  go_ret
  exact ⟨by simp, b04.out⟩
end Go.Proofs.YtfcioamdkebniaaDoor

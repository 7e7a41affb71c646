/- Layer 7's statements: lists of samples held against each other; rising samples. -/
import Derived.Test.YtieaiecoiononaaDoorOE
import Derived.Laws.StructEq
namespace Go.Proofs.YtieaiecoiononaaDoor
open Go.RowKit Go.Lib Go.Deep Go.ChangeShapes Go.WideShapes

def rstep (p : Int × List Xo.Sm) (s : Xo.Sm) : Int × List Xo.Sm := (p.1 + (1 + s.1 % 1000000000), p.2 ++ [(p.1 + (1 + s.1 % 1000000000), s.2)])
def riseF (l : List Xo.Sm) : Int × List Xo.Sm := l.foldl rstep (0, [])
theorem riseF_snoc (l : List Xo.Sm) (s : Xo.Sm) : riseF (l ++ [s]) = rstep (riseF l) s := by simp [riseF, List.foldl_append]
def rise (l : List Xo.Sm) : List Xo.Sm := (riseF (l.take 20)).2
theorem riseF_ok (l : List Xo.Sm) : Fits l → (riseF l).2.length = l.length ∧ 0 ≤ (riseF l).1 ∧ (riseF l).1 ≤ 1000000000 * l.length ∧ (∀ s ∈ (riseF l).2, 0 ≤ s.1 ∧ s.1 ≤ (riseF l).1 ∧ s.2 < 18446744073709551616) ∧ (riseF l).2.Pairwise (fun a b => a.1 < b.1) := by
  induction l using Xo.snoc_ind with
  | h0 => intro _; simp [riseF]
  | h1 l s ih =>
    intro hf
    obtain ⟨i1, i2, i3, i4, i5⟩ := ih (fun x hx => hf x (by simp [hx]))
    have hs := hf s (by simp)
    have hm0 : 0 ≤ s.1 % 1000000000 := Int.emod_nonneg _ (by decide)
    have hm1 : s.1 % 1000000000 < 1000000000 := Int.emod_lt_of_pos _ (by decide)
    rw [riseF_snoc]
    unfold rstep
    refine ⟨by simp [i1], by simp only; omega, by simp only [List.length_append, List.length_singleton]; omega, fun x hx => ?_, ?_⟩
    · simp only at hx ⊢
      rcases List.mem_append.1 hx with hx | hx
      · have := i4 x hx; omega
      · rw [List.mem_singleton.1 hx]; simp only; omega
    · simp only
      rw [List.pairwise_append]
      refine ⟨i5, List.pairwise_singleton _ _, fun a ha b hb => ?_⟩
      rw [List.mem_singleton.1 hb]
      have := i4 a ha
      simp only
      omega
theorem fits_take {l : List Xo.Sm} (h : Fits l) (n : Nat) : Fits (l.take n) := fun s hs => h s (List.mem_of_mem_take hs)
theorem rise_good {l : List Xo.Sm} (h : Fits l) : Xo.Good (rise l) := by
  obtain ⟨h1, h2, h3, h4, h5⟩ := riseF_ok (l.take 20) (fits_take h 20)
  have hl : (l.take 20).length ≤ 20 := by rw [List.length_take]; omega
  refine ⟨by unfold rise; omega, fun s hs => ?_, h5⟩
  have := h4 s hs
  omega
theorem rise_len (l : List Xo.Sm) (h : Fits l) : (rise l).length = min 20 l.length := by
  have := (riseF_ok (l.take 20) (fits_take h 20)).1
  rw [List.length_take] at this
  exact this

theorem rem_mod (x : Int) : Int.tmod (Int.tmod x 1000000000 + 1000000000) 1000000000 = x % 1000000000 := by
  rcases Int.le_total 0 x with h | h
  · rw [Int.tmod_eq_emod_of_nonneg h, Int.tmod_eq_emod_of_nonneg (by have := Int.emod_nonneg x (show (1000000000 : Int) ≠ 0 by decide); omega)]
    omega
  · have h1 : Int.tmod x 1000000000 = -((-x) % 1000000000) := by
      have := Int.neg_tmod (-x) 1000000000
      rw [Int.neg_neg] at this
      rw [this, Int.tmod_eq_emod_of_nonneg (by omega)]
    rw [h1, Int.tmod_eq_emod_of_nonneg (by omega)]
    omega

theorem two_cells (w : World) (a b : Value) (t : TypeId) : ∀ j u, [a, b][j]? = some u → (w.alloc (.cells #[a, b] t)).cell? ((⟨w.heap.size, 0, none⟩ : Addr).add j) = some u := by
  intro j u hu
  exact (Sl.lit w w.heap.size 2 1 #[a, b] t (Nat.le_refl _) (by decide) rfl).cells j u hu
theorem smc_append (a b : List Xo.Sm) : smc (a ++ b) = smc a ++ smc b := by simp [smc]


theorem sl_sms {w : World} {base g off n cap : Nat} {l : List Xo.Sm} (h : Sl w base 2 (.slice (some ⟨g, off, none⟩) n cap) n (smc l)) (j : Nat) (s1 : Int) (s2 : Nat) (hj : l[j]? = some (s1, s2)) : w.cell? ⟨g, off + j * 2, none⟩ = some (.int .i64 s1) ∧ w.cell? ⟨g, off + j * 2 + 1, none⟩ = some (.int .u64 s2) := by
  have hc := smc_at l j _ hj
  have h0 := h.cells _ _ hc.1
  have h1 := h.cells _ _ hc.2
  rw [add_plain] at h0 h1
  exact ⟨h0, by rw [Nat.add_assoc]; exact h1⟩

set_option maxRecDepth 100000 in
theorem same_any (w : World) (base base2 : Nat) (ao bo : Option Addr) (n c d : Nat) (l : List Xo.Sm) (h1 : Sl w base 2 (.slice ao n c) n (smc l)) (h2 : Sl w base2 2 (.slice bo n d) n (smc l)) (hm : n ≤ 1000000) :
    Calls Tryd.prog 15 #[.slice ao n c, .slice bo n d] w fun e w' => e = .returned (.int .i64 0) ∧ ∃ q, w' = w.drewN q := by
  have hln : l.length = n := by have := h1.1; rw [smc_length] at this; omega
  have HL := Lib.hid hln
  clear hln
  go_enter Tryd.func15, Tryd.ntmps15
  go_wp2
  go_loopw [13] (fun i' wr => ∃ (k q : Nat), i' = .int .i64 k ∧ k ≤ n ∧ wr = w.drewN q) (fun i' _ => n - (RowKit.intOf i').toNat)
  case atStart => exact ⟨0, 0, rfl, by omega, rfl⟩
  case round =>
    obtain ⟨k, q, rfl, hk, rfl⟩ := hrel
    by_cases hlt : k < n
    · obtain ⟨s1, s2, hkd⟩ : ∃ s1 s2, l[k]? = some (s1, s2) := ⟨_, _, List.getElem?_eq_getElem (by have := HL.out; omega)⟩
      obtain ⟨g1, o1, ha⟩ : ∃ g off, ao = some ⟨g, off, none⟩ := by
        rcases h1.2 with ⟨_, h0⟩ | ⟨g, off, cap', he, _⟩
        · omega
        · cases he; exact ⟨g, off, rfl⟩
      obtain ⟨g2, o2, hb⟩ : ∃ g off, bo = some ⟨g, off, none⟩ := by
        rcases h2.2 with ⟨_, h0⟩ | ⟨g, off, cap', he, _⟩
        · omega
        · cases he; exact ⟨g, off, rfl⟩
      subst ha; subst hb
      obtain ⟨p0, p1⟩ := sl_sms h1 k s1 s2 hkd
      obtain ⟨q0, q1⟩ := sl_sms h2 k s1 s2 hkd
      have i1 : (k : Int) < (n : Int) := by omega
      have i2 : (0 : Int) ≤ (k : Int) := by omega
      clear hkd
      go_wp2
      go_quiet (fail)
      go_wp2
      exact ⟨⟨k + 1, _, by go_num, by omega, rfl⟩, by simp [RowKit.intOf]; omega⟩
    · have hkn : k = n := by omega
      subst hkn
      go_wp2
      go_ret
      exact ⟨rfl, _, rfl⟩

theorem enc_mono2 {u v : Nat} (h : u ≤ v) : (Leb.encU u).length ≤ (Leb.encU v).length := Leb.enc_mono 9 u v h
theorem text_mono (l : List Xo.Sm) (n : Nat) : (Xo.text (l.take n)).length ≤ (Xo.text l).length := by
  obtain ⟨b, hb⟩ := Xo.bitsL_prefix (l.take n) (l.drop n)
  rw [List.take_append_drop] at hb
  have hle : (Xo.bitsL (l.take n)).length ≤ (Xo.bitsL l).length := by rw [hb, List.length_append]; omega
  have h1 := enc_mono2 hle
  have h2 : (Leb.encU (l.take n).length).length ≤ (Leb.encU l.length).length := enc_mono2 (by rw [List.length_take]; omega)
  unfold Xo.text
  simp only [List.length_append, Bt.pack_length]
  omega
theorem good_take {l : List Xo.Sm} (h : Xo.Good l) (n : Nat) : Xo.Good (l.take n) := Xo.good_prefix (m := l.drop n) (by rw [List.take_append_drop]; exact h)
theorem smc_take (l : List Xo.Sm) (n : Nat) (j : Nat) (hj : j < (l.take n).length * 2) : (smc (l.take n))[j]? = (smc l)[j]? := by
  have e : smc l = smc (l.take n) ++ smc (l.drop n) := by rw [← smc_append, List.take_append_drop]
  rw [e, List.getElem?_append_left (by rw [smc_length]; exact hj)]
theorem rd_take {w : World} {base : Nat} {a : Option Addr} {cap n : Nat} {l : List Xo.Sm} (h : Sl w base 2 (.slice a l.length cap) l.length (smc l)) (hn : n ≤ l.length) : Rd w 2 (.slice a n cap) (l.take n).length (smc (l.take n)) := by
  have e : (l.take n).length = n := by rw [List.length_take]; omega
  obtain ⟨h0, a', cap', g, off, hv, h1, h2⟩ := Rd.of_sl h
  cases hv
  rw [e]
  refine ⟨by rw [smc_length, e], a, cap, g, off, rfl, fun h => h1 (by omega), fun j hj => ?_⟩
  rw [h2 j (by omega), smc_take l n j (by rw [e]; exact hj)]

end Go.Proofs.YtieaiecoiononaaDoor

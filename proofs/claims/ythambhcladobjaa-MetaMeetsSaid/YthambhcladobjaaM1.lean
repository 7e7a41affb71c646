/- Layer 9 in plain words: the metas that the statements make. No program's text. -/
import Derived.Test.YthambhcladobjaaM0
namespace Go.Proofs.Ythambhcladobjaa.Mt

theorem isN_nam (a b : Nat) (ha : a < 1099511627776) (hb : b < 1099511627776) : isN (Idn.nam a b) = true := by
  unfold isN Idn.nam
  rw [List.take_left' (Idn.dg_len 8 a), List.drop_left' (Idn.dg_len 8 a), Idn.num_dg 8 a (Nat.lt_of_lt_of_le ha (by decide)), Idn.num_dg 8 b (Nat.lt_of_lt_of_le hb (by decide))]
  simp [Idn.dg_len]

/-- The meta that is made of another one's numbers. -/
def mdM (id : List UInt8) (mn mx lv se sa : Int) (ns : Nat) (tick seq : Int) : Me :=
  ⟨Idn.nam (1 + tick % 1024).toNat (seq % 1024).toNat, mn % 1048576, mn % 1048576 + 1 + mx % 65536, 1 + lv % 8, se % 1024, se % 1024 + sa % 1024,
    [⟨nmC, 1, Crc.sum [99]⟩, ⟨nmI, (id.take 20).length, Crc.sum (id.take 20)⟩], (List.range (min ns 9)).map (Idn.nam 0)⟩

theorem okSs_range (id : List UInt8) (hid : ∀ i, i < 1099511627776 → Idn.nam 0 i ≠ id) : ∀ (n k : Nat) (p : Option (List UInt8)), k + n ≤ 100 → (p = none ∨ ∃ j, p = some (Idn.nam 0 j) ∧ j < k) →
    okSs id p ((List.range' k n).map (Idn.nam 0)) = true
  | 0, _, _, _, _ => by simp [okSs]
  | n + 1, k, p, h, hp => by
    rw [List.range'_succ, List.map_cons]
    have ih := okSs_range id hid n (k + 1) (some (Idn.nam 0 k)) (by omega) (.inr ⟨k, rfl, by omega⟩)
    unfold okSs
    rw [ih, isN_nam 0 k (by omega) (by omega)]
    have h1 : decide (Idn.nam 0 k = id) = false := decide_eq_false (hid k (by omega))
    rw [h1]
    rcases hp with rfl | ⟨j, rfl, hj⟩
    · rfl
    · have h2 : Idn.nam 0 j < Idn.nam 0 k := (Idn.nam_lt 0 j 0 k (by omega) (by omega) (by omega) (by omega)).2 (.inr ⟨rfl, hj⟩)
      simp [h2]
theorem chk_mdM (id : List UInt8) (mn mx lv se sa : Int) (ns : Nat) (tick seq : Int) : chk (mdM id mn mx lv se sa ns tick seq) = true := by
  have h1 : isN (mdM id mn mx lv se sa ns tick seq).id = true := isN_nam _ _ (by omega) (by omega)
  have h2 : okT (mdM id mn mx lv se sa ns tick seq) = true := by
    unfold okT mdM
    simp only [Bool.and_eq_true, decide_eq_true_eq]
    omega
  have h3 : okN (mdM id mn mx lv se sa ns tick seq) = true := by
    unfold okN mdM
    simp only [Bool.and_eq_true, decide_eq_true_eq]
    omega
  have h4 : okFs (mdM id mn mx lv se sa ns tick seq).files = true := by
    have : (id.take 20).length ≤ 20 := by rw [List.length_take]; omega
    unfold mdM
    simp only [okFs, okF, Bool.and_eq_true, decide_eq_true_eq]
    exact ⟨⟨⟨trivial, by omega⟩, by omega⟩, ⟨trivial, by omega⟩, by omega⟩
  have h5 : okS (mdM id mn mx lv se sa ns tick seq) = true := by
    unfold okS mdM
    simp only [Bool.and_eq_true, decide_eq_true_eq]
    refine ⟨by simp; omega, ?_⟩
    rw [List.range_eq_range']
    refine okSs_range _ (fun i hi e => ?_) _ 0 none (by omega) (.inl rfl)
    have := ((Idn.nam_eq 0 i _ _ (by omega) hi (by omega) (by omega)).1 e).1
    omega
  unfold chk
  rw [h1, h2, h3, h4, h5]
  rfl
theorem sum_mdM (id : List UInt8) (mn mx lv se sa : Int) (ns : Nat) (tick seq : Int) : ∀ f ∈ (mdM id mn mx lv se sa ns tick seq).files, f.sum < 4294967296 := by
  intro f hf
  unfold mdM at hf
  simp only [List.mem_cons, List.not_mem_nil, or_false] at hf
  rcases hf with rfl | rfl <;> exact Crc.sum_lt _
end Go.Proofs.Ythambhcladobjaa.Mt

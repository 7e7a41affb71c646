/- The document's own fuse: Try. A slice of truths that came in, opened; DiskFuses' closure. -/
import Derived.Test.YtnjoojffefhgpaaME4
import Derived.Test.YtnjoojffefhgpaaMU0
import Derived.OpenShut
namespace Go.Proofs.Ytnjoojffefhgpaa
open Go.Conc Go.RowKit

/-- The cells of faults. -/
def ftc (A : List Ft) : List Value := A.flatMap fun x => [.int .i64 x.1, .bool x.2]
theorem ftc_length (A : List Ft) : (ftc A).length = A.length * 2 := by
  induction A with
  | nil => rfl
  | cons x A ih => simp only [ftc, List.flatMap_cons, List.length_append, List.length_cons, List.length_nil] at *; omega
theorem ftc_cons (x : Ft) (A : List Ft) : ftc (x :: A) = .int .i64 x.1 :: .bool x.2 :: ftc A := rfl
theorem ftc_one (A : List Ft) : ∀ v ∈ ftc A, v.oneCell' = true := by
  intro v hv
  simp only [ftc, List.mem_flatMap] at hv
  obtain ⟨x, _, hx⟩ := hv
  simp only [List.mem_cons, List.not_mem_nil, or_false] at hx
  rcases hx with rfl | rfl <;> rfl
theorem bi_fault : (Try.prog.info? 101).map (fun i => (i.size, i.bytes)) = some (2, 16) := by kernel_rfl

set_option maxRecDepth 100000 in
theorem rtry_none (base : Nat) (v : Value) (w : World) (h : Sl w base 2 v 0 (ftc [])) :
    Calls Try.prog 60 #[.agg #[v]] w fun e w' => e = .returned (.tuple #[.agg #[v], .bool true, .bool true]) ∧ Below w.heap.size w w' := by
  obtain ⟨a, cap, rfl⟩ := h.slice
  go_enter Try.func60, Try.ntmps60
  go_wp2
  go_returns
  exact ⟨rfl, ((Below.refl _ w).alloc (Nat.le_refl _) _).alloc (by simp) _⟩
theorem zc_fault : (Try.prog.info? 101).map (fun i => (i.zero, i.size, i.bytes)) = some (some (.agg #[.int .i64 0, .bool false]), 2, 16) := by kernel_rfl

theorem Sl.put {w : World} {base size g off n cap : Nat} {xs : List Value} (h : Sl w base size (.slice (some ⟨g, off, none⟩) n cap) n xs) (j : Nat) (u : Value) (hj : j < n * size) : Sl (w.setCell ⟨g, off + j, none⟩ u) base size (.slice (some ⟨g, off, none⟩) n cap) n (xs.set j u) := by
  rcases h.2 with ⟨h0, _⟩ | ⟨g', off', cap', he, hbg, hg, hnc, hcm, hfree, hcell⟩
  · cases h0
  · cases he
    have hc : n * size ≤ cap * size := Nat.mul_le_mul_right _ hnc
    refine ⟨by rw [List.length_set]; exact h.1, .inr ⟨g, off, cap, rfl, hbg, by simpa [World.setCell] using hg, hnc, hcm, fun k hk => ⟨?_, ?_⟩, fun k hk => ?_⟩⟩
    · by_cases hkj : k = j
      · subst hkj
        rw [cell_setCell_same _ _ _ _ (hfree k hk).1]; rfl
      · rw [cell_setCell_other _ _ _ _ _ (.inr (by simp only; omega))]
        exact (hfree k hk).1
    · rw [frozen_setCell]
      exact (hfree k hk).2
    · by_cases hkj : k = j
      · subst hkj
        rw [cell_setCell_same _ _ _ _ (hfree k (by omega)).1, List.getElem?_set_self (by rw [h.1]; exact hk)]
      · rw [cell_setCell_other _ _ _ _ _ (.inr (by simp only; omega)), hcell k hk, List.getElem?_set_ne (Ne.symm hkj)]

theorem sl_free {w : World} {base size g off n cap : Nat} {xs : List Value} (h : Sl w base size (.slice (some ⟨g, off, none⟩) n cap) n xs) (j : Nat) (hj : j < n * size) : (w.cell? ⟨g, off + j, none⟩).isSome = true ∧ w.frozen? ⟨g, off + j, none⟩ = false := by
  rcases h.2 with ⟨h0, _⟩ | ⟨g', off', cap', he, _, _, hnc, _, hf, _⟩
  · cases h0
  · cases he
    have := Nat.mul_le_mul_right size hnc
    exact hf j (by omega)
theorem ext_new {w w' : World} {base size b n : Nat} {v' : Value} {xs : List Value} (h : Ext base size w (.slice (some ⟨b, 0, none⟩) 0 0) 0 [] w' v' (0 + n) ([] ++ xs)) (hn : 0 < n) :
    ∃ g off cap, v' = .slice (some ⟨g, off, none⟩) n cap ∧ w.heap.size ≤ g ∧ g < w'.heap.size ∧ Sl w' base size (.slice (some ⟨g, off, none⟩) n cap) n xs := by
  have hs := h.now
  rw [Nat.zero_add, List.nil_append] at hs
  rcases hs.2 with ⟨_, h0⟩ | ⟨g, off, cap, rfl, hb, hg, hnc, hcm, hf, hc⟩
  · omega
  · refine ⟨g, off, cap, rfl, ?_, hg, hs⟩
    rcases h.alias with ⟨a, c2, e1, e2, _⟩ | hal
    · simp only [Value.slice.injEq] at e1 e2
      omega
    · exact hal g rfl
set_option maxHeartbeats 1000000 in
set_option maxRecDepth 100000 in
theorem rtry_later (base : Nat) (v : Value) (x : Ft) (A : List Ft) (w : World) (h : Sl w base 2 v (A.length + 1) (ftc (x :: A))) (hx : 0 < x.1) (hx2 : x.1 ≤ 9223372036854775807) (hA : A.length ≤ 100) :
    Calls Try.prog 60 #[.agg #[v]] w fun e w' => ∃ v', e = .returned (.tuple #[.agg #[v'], .bool true, .bool true]) ∧ Sl w' w.heap.size 2 v' (A.length + 1) (ftc ((x.1 - 1, x.2) :: A)) ∧ Below w.heap.size w w' := by
  obtain ⟨x1, x2⟩ := x
  simp only at hx hx2 ⊢
  obtain ⟨i0, hi, hz0, hz1, hz2⟩ := info_parts zc_fault
  have Hz := Lib.hid hz0; have Hs := Lib.hid hz1; have Hb := Lib.hid hz2; have Hi := Lib.hid hi
  clear hz0 hz1 hz2 hi
  rcases h.2 with ⟨_, h0⟩ | ⟨g, off, cap, rfl, hb, hg, hnc, hcm, hfree, hcell⟩
  · omega
  · have c0 : w.cell? ⟨g, off, none⟩ = some (.int .i64 x1) := by have := hcell 0 (by omega); rw [ftc_cons] at this; exact this
    have c1 : w.cell? ⟨g, off + 1, none⟩ = some (.bool x2) := by have := hcell 1 (by omega); rw [ftc_cons] at this; exact this
    clear hcell hfree
    have hl : 0 < A.length + 1 := by omega
    obtain ⟨n, hn⟩ : ∃ n, n = A.length + 1 := ⟨_, rfl⟩
    rw [← hn] at hl h ⊢
    have HN := Lib.hid hn
    have hn1 : n ≤ 101 := by omega
    have n1 : 0 + n ≤ maxLen := by unfold maxLen; omega
    have n2 : (0 + n) * 16 ≤ 140737488355328 := by omega
    clear hn hnc
    -- the worlds: the argument's box, the result's, the fault's, the empty row
    obtain ⟨W1, hW1⟩ : ∃ W1, W1 = ((w.alloc (.cells #[.slice (some ⟨g, off, none⟩) n cap] 28)).alloc (.cells #[.slice none 0 0] 28)).alloc (.cells #[.int .i64 x1, .bool x2] 101) := ⟨_, rfl⟩
    go_enter Try.func60, Try.ntmps60
    have z1 : W1.heap.size = w.heap.size + 1 + 1 + 1 := by rw [hW1]; simp
    have b1 : Below w.heap.size w W1 := by rw [hW1]; exact (((Below.refl _ w).alloc (Nat.le_refl _) _).alloc (by simp) _).alloc (by simp; omega) _
    have hs1 := Sl.lit W1 w.heap.size 2 0 #[] 101 (by omega) (by decide) rfl
    have hs2 := (h.on b1).alloc (.cells #[] 101)
    have n3 : w.heap.size ≤ (W1.alloc (.cells #[] 101)).heap.size := by simp; omega
    obtain ⟨r1, fr1⟩ : W1.cell? ⟨w.heap.size + 1, 0, none⟩ = some (.slice none 0 0) ∧ W1.frozen? ⟨w.heap.size + 1, 0, none⟩ = false := by
      have hb := heap_alloc_new (w.alloc (.cells #[.slice (some ⟨g, off, none⟩) n cap] 28)) (.cells #[.slice none 0 0] 28)
      rw [World.size_alloc] at hb
      have hb2 : W1.heap[w.heap.size + 1]? = some (.cells #[.slice none 0 0] 28) := by rw [hW1, Below.heap_alloc _ _ _ (by simp)]; exact hb
      exact ⟨by rw [cell_of_row _ _ 0 _ _ _ hb2]; rfl, by simp only [World.frozen?, hb2]; rfl⟩
    rw [z1] at hs1
    obtain ⟨W4, hW4⟩ : ∃ W4, W4 = W1.alloc (.cells #[] 101) := ⟨_, rfl⟩
    have z4 : W4.heap.size = w.heap.size + 1 + 1 + 1 + 1 := by rw [hW4]; simp; omega
    have b4 : Below W1.heap.size W1 W4 := by rw [hW4]; exact (Below.refl _ _).alloc (Nat.le_refl _) _
    rw [← hW4] at hs1 hs2 n3
    have q1 := (b4.cell (p := ⟨w.heap.size + 1, 0, none⟩) (by simp only; omega)).trans r1
    have fq1 := (b4.frozen (p := ⟨w.heap.size + 1, 0, none⟩) (by simp only; omega)).trans fr1
    have b14 : Below w.heap.size w W4 := b1.trans (b4.mono (by omega))
    rw [hW1] at hW4
    have HW4 := Lib.hid hW4
    have HZ4 := Lib.hid z4
    clear hW1 hW4 r1 fr1 b4 b1 z1 z4
    go_wp2_with (at_builtin; rw [← HW4.out]; refine wpList_append_sl2 _ rfl _ _ 26 rfl w.heap.size 101 i0 (.agg #[.int .i64 0, .bool false]) 2 16 Try.underlying26 Hi.out Hz.out Hs.out Hb.out rfl (by decide) _ 0 _ rfl hs1 base _ n _ rfl hs2 (ftc_one _) n1 n2 n3 ?_; intro v' w5 hx5; obtain ⟨g5, o5, c5, rfl, hg5, hg5', hsl5⟩ := ext_new hx5 hl; have q0 := hsl5.cells 0 _ rfl; have qf := (sl_free hsl5 0 (by omega)).2; have k1 := hx5.grown.block (w.heap.size + 1) (by have := HZ4.out; omega) (fun e => by have e2 : w.heap.size + 1 = w.heap.size + 1 + 1 + 1 := Option.some.inj e; omega); have p1 := (World.cell?_of_block (a := ⟨w.heap.size + 1, 0, none⟩) k1).trans q1; have pf1 := (World.frozen?_of_block (a := ⟨w.heap.size + 1, 0, none⟩) k1).trans fq1; have hgn : g5 ≠ w.heap.size + 1 := (by have := HZ4.out; omega); simp only [Addr.add_lit, Nat.add_zero] at q0 qf)
    have hc6 : ((w5.setCell ⟨g5, o5, none⟩ (.int .i64 (x1 - 1))).setCell ⟨w.heap.size + 1, 0, none⟩ (.slice (some ⟨g5, o5, none⟩) n c5)).cell? ⟨w.heap.size + 1, 0, none⟩ = some (.slice (some ⟨g5, o5, none⟩) n c5) :=
      cell_setCell_same _ _ _ _ (by rw [cell_setCell_other _ _ _ _ _ (.inl (by simp only; omega)), p1]; rfl)
    have hz4 := HZ4.out
    have hp := hsl5.put 0 (.int .i64 (x1 - 1)) (by omega)
    rw [Nat.add_zero] at hp
    have hb5 : Below w.heap.size w w5 := b14.trans (hx5.below (Nat.le_refl _) (by omega))
    obtain ⟨W6, hW6⟩ : ∃ W6, W6 = (w5.setCell ⟨g5, o5, none⟩ (.int .i64 (x1 - 1))).setCell ⟨w.heap.size + 1, 0, none⟩ (.slice (some ⟨g5, o5, none⟩) n c5) := ⟨_, rfl⟩
    rw [← hW6] at hc6 ⊢
    have hb6 : Below w.heap.size w W6 := by rw [hW6]; exact (hb5.setCell (p := ⟨g5, o5, none⟩) (by simp only; omega) _).setCell (p := ⟨w.heap.size + 1, 0, none⟩) (by simp only; omega) _
    have hs6 : Sl W6 w.heap.size 2 (.slice (some ⟨g5, o5, none⟩) n c5) n (ftc ((x1 - 1, x2) :: A)) := by
      rw [hW6]
      exact Sl.same (w := w5.setCell ⟨g5, o5, none⟩ (.int .i64 (x1 - 1))) hp (by simp [World.setCell]) (fun k hk => Below.heap_setCell _ _ _ _ (by cases hk; simp only; omega))
    have HB6 := Lib.hid hb6; have HS6 := Lib.hid hs6
    clear hW6 hp hb5 hb6 hs6 hx5 hsl5 q0 qf p1 pf1 k1 hgn
    (try simp only [Exit.inBlock, Exit.then])
    refine bodyPost_ret (by simp [results, Try.results60, go_sem, hc6]; rfl) rfl ?_
    exact ⟨_, rfl, HS6.out, HB6.out⟩

set_option maxHeartbeats 1000000 in
set_option maxRecDepth 100000 in
theorem rtry_last (base : Nat) (v : Value) (x : Ft) (A : List Ft) (w : World) (h : Sl w base 2 v (A.length + 1) (ftc (x :: A))) (hx : ¬ 0 < x.1) (hA : A.length ≤ 100) :
    Calls Try.prog 60 #[.agg #[v]] w fun e w' => ∃ v', e = .returned (.tuple #[.agg #[v'], .bool false, .bool x.2]) ∧ Sl w' w.heap.size 2 v' A.length (ftc A) ∧ Below w.heap.size w w' := by
  obtain ⟨x1, x2⟩ := x
  simp only at hx ⊢
  obtain ⟨i0, hi, hz0, hz1, hz2⟩ := info_parts zc_fault
  have Hz := Lib.hid hz0; have Hs := Lib.hid hz1; have Hb := Lib.hid hz2; have Hi := Lib.hid hi
  clear hz0 hz1 hz2 hi
  rcases h.2 with ⟨_, h0⟩ | ⟨g, off, cap, rfl, hb, hg, hnc, hcm, hfree, hcell⟩
  · omega
  · have c0 : w.cell? ⟨g, off, none⟩ = some (.int .i64 x1) := by have := hcell 0 (by omega); rw [ftc_cons] at this; exact this
    have c1 : w.cell? ⟨g, off + 1, none⟩ = some (.bool x2) := by have := hcell 1 (by omega); rw [ftc_cons] at this; exact this
    have hl : 0 < A.length + 1 := by omega
    obtain ⟨n, hn⟩ : ∃ n, n = A.length := ⟨_, rfl⟩
    rw [← hn] at hl h hnc ⊢
    have HN := Lib.hid hn
    have hcap : 1 ≤ cap := by omega
    have hnc2 : n ≤ cap - 1 := by omega
    have hl2 : (ftc A).length = n * 2 := by rw [ftc_length, hn]
    have hnews : ∀ j u, (ftc A)[j]? = some u → w.cell? ⟨g, off + 2 + j, none⟩ = some u := fun j u hu => by
      have hj : j < n * 2 := by rw [← hl2]; exact (List.getElem?_eq_some_iff.1 hu).1
      have := hcell (j + 2) (by omega)
      rw [show off + 2 + j = off + (j + 2) by omega, this, ftc_cons]
      exact hu
    clear hcell hfree
    have hn1 : n ≤ 101 := by omega
    have n1 : 0 + n ≤ maxLen := by unfold maxLen; omega
    have n2 : (0 + n) * 16 ≤ 140737488355328 := by omega
    have hnn : (n : Int) + 1 - 1 = n := by omega
    clear hn
    obtain ⟨W1, hW1⟩ : ∃ W1, W1 = ((w.alloc (.cells #[.slice (some ⟨g, off, none⟩) (n + 1) cap] 28)).alloc (.cells #[.slice none 0 0] 28)).alloc (.cells #[.int .i64 x1, .bool x2] 101) := ⟨_, rfl⟩
    have z1 : W1.heap.size = w.heap.size + 1 + 1 + 1 := by rw [hW1]; simp
    have b1 : Below w.heap.size w W1 := by rw [hW1]; exact (((Below.refl _ w).alloc (Nat.le_refl _) _).alloc (by simp) _).alloc (by simp; omega) _
    obtain ⟨r1, fr1⟩ : W1.cell? ⟨w.heap.size + 1, 0, none⟩ = some (.slice none 0 0) ∧ W1.frozen? ⟨w.heap.size + 1, 0, none⟩ = false := by
      have hb := heap_alloc_new (w.alloc (.cells #[.slice (some ⟨g, off, none⟩) (n + 1) cap] 28)) (.cells #[.slice none 0 0] 28)
      rw [World.size_alloc] at hb
      have hb2 : W1.heap[w.heap.size + 1]? = some (.cells #[.slice none 0 0] 28) := by rw [hW1, Below.heap_alloc _ _ _ (by simp)]; exact hb
      exact ⟨by rw [cell_of_row _ _ 0 _ _ _ hb2]; rfl, by simp only [World.frozen?, hb2]; rfl⟩
    have r0 : W1.cell? ⟨w.heap.size, 0, none⟩ = some (.slice (some ⟨g, off, none⟩) (n + 1) cap) := by
      rw [hW1, World.cell?_alloc_past _ _ _ (by simp; omega), World.cell?_alloc_past _ _ _ (by simp), cell_of_row _ _ 0 _ _ _ (heap_alloc_new w _)]; rfl
    obtain ⟨r2, r3⟩ : W1.cell? ⟨w.heap.size + 1 + 1, 0, none⟩ = some (.int .i64 x1) ∧ W1.cell? ⟨w.heap.size + 1 + 1, 1, none⟩ = some (.bool x2) := by
      have hb := heap_alloc_new ((w.alloc (.cells #[.slice (some ⟨g, off, none⟩) (n + 1) cap] 28)).alloc (.cells #[.slice none 0 0] 28)) (.cells #[.int .i64 x1, .bool x2] 101)
      rw [World.size_alloc, World.size_alloc, ← hW1] at hb
      exact ⟨by rw [cell_of_row _ _ 0 _ _ _ hb]; rfl, by rw [cell_of_row _ _ 1 _ _ _ hb]; rfl⟩
    have HW1 := Lib.hid hW1
    have HZ1 := Lib.hid z1
    have hs1 := (Sl.lit W1 w.heap.size 2 0 #[] 101 (by omega) (by decide) rfl).drew
    obtain ⟨W2, hW2⟩ : ∃ W2, W2 = (W1.alloc (.cells #[] 101)).drew := ⟨_, rfl⟩
    have b2 : Below W1.heap.size W1 W2 := by rw [hW2]; exact ((Below.refl _ W1).alloc (Nat.le_refl _) _).drew
    have z2 : W2.heap.size = w.heap.size + 1 + 1 + 1 + 1 := by rw [hW2]; show (W1.alloc _).heap.size = _; simp; omega
    have t0 : (W1.alloc (.cells #[] 101)).cell? ⟨w.heap.size, 0, none⟩ = some (.slice (some ⟨g, off, none⟩) (n + 1) cap) := (World.cell?_alloc_past _ _ _ (by omega)).trans r0
    have t3 : (W1.alloc (.cells #[] 101)).cell? ⟨w.heap.size + 1 + 1, 1, none⟩ = some (.bool x2) := (World.cell?_alloc_past _ _ _ (by omega)).trans r3
    have HZ2 := Lib.hid z2
    rw [← hW2] at hs1
    have hb12 : Below w.heap.size w W2 := b1.trans (b2.mono (by omega))
    have hnw : ∀ k, k = off + 2 → ∀ j u, (ftc A)[j]? = some u → W2.cell? ((⟨g, k, none⟩ : Addr).add j) = some u := fun k hk j u hu => by
      rw [Addr.add_lit, hk]
      exact (hb12.cell (p := ⟨g, off + 2 + j, none⟩) hg).trans (hnews j u hu)
    have n3 : w.heap.size ≤ W2.heap.size := by omega
    have e1 : W2.cell? ⟨w.heap.size + 1, 0, none⟩ = some (.slice none 0 0) := (b2.cell (p := ⟨w.heap.size + 1, 0, none⟩) (by simp only; omega)).trans r1
    have ef1 : W2.frozen? ⟨w.heap.size + 1, 0, none⟩ = false := (b2.frozen (p := ⟨w.heap.size + 1, 0, none⟩) (by simp only; omega)).trans fr1
    have e3 : W2.cell? ⟨w.heap.size + 1 + 1, 1, none⟩ = some (.bool x2) := (b2.cell (p := ⟨w.heap.size + 1 + 1, 1, none⟩) (by simp only; omega)).trans r3
    have hkeep : ∀ v' w5, Ext w.heap.size 2 W2 (.slice (some ⟨W1.heap.size, 0, none⟩) 0 0) 0 [] w5 v' (0 + n) ([] ++ ftc A) → (∃ a5 c5, v' = .slice a5 n c5) ∧ (∀ k, v'.ownBlock = some k → k ≠ w.heap.size + 1) ∧ w5.cell? ⟨w.heap.size + 1, 0, none⟩ = some (.slice none 0 0) ∧ w5.frozen? ⟨w.heap.size + 1, 0, none⟩ = false ∧ w5.cell? ⟨w.heap.size + 1 + 1, 1, none⟩ = some (.bool x2) := fun v' w5 hx5 => by
      have hb : ∀ k, k = w.heap.size + 1 ∨ k = w.heap.size + 1 + 1 → w5.heap[k]? = W2.heap[k]? := fun k hk => hx5.grown.block k (by have := HZ2.out; omega) (fun e => by have e2 : k = W1.heap.size := Option.some.inj e; have := HZ1.out; omega)
      refine ⟨?_, ?_, (World.cell?_of_block (a := ⟨w.heap.size + 1, 0, none⟩) (hb _ (.inl rfl))).trans e1, (World.frozen?_of_block (a := ⟨w.heap.size + 1, 0, none⟩) (hb _ (.inl rfl))).trans ef1, (World.cell?_of_block (a := ⟨w.heap.size + 1 + 1, 1, none⟩) (hb _ (.inr rfl))).trans e3⟩
      · have := hx5.now.slice
        rwa [Nat.zero_add] at this
      · intro k hk
        have hz1 := HZ1.out; have hz2 := HZ2.out
        rcases hx5.alias with ⟨a, c, q1, q2, _⟩ | hal
        · rw [q2] at hk
          simp only [Value.slice.injEq] at q1
          rw [← q1.1] at hk
          have : k = W1.heap.size := (Option.some.inj hk).symm
          omega
        · have := hal k hk
          omega
    have HK := Lib.hid hkeep
    have HB12 := Lib.hid hb12
    have HHW := Lib.hid hW1
    have HHW2 := Lib.hid hW2
    have r0' : W1.drew.cell? ⟨w.heap.size, 0, none⟩ = some (.slice (some ⟨g, off, none⟩) (n + 1) cap) := r0
    clear hkeep hb12 b2 b1 z1 z2 hnews
    have h11 : (1 : Int) ≤ (n : Int) + 1 := by omega
    by_cases hc1 : cap = 1
    · subst hc1
      obtain rfl : n = 0 := by omega
      have hnil : ftc A = [] := List.eq_nil_of_length_eq_zero (by omega)
      rw [hnil]
      rw [hW2] at e1 ef1 hs1
      have e1' : (W1.alloc (.cells #[] 101)).cell? ⟨w.heap.size + 1, 0, none⟩ = some (.slice none 0 0) := e1
      have ef1' : (W1.alloc (.cells #[] 101)).frozen? ⟨w.heap.size + 1, 0, none⟩ = false := ef1
      clear hW1 hW2 hnw
      go_enter Try.func60, Try.ntmps60
      go_wp2_with fail
      rw [← HHW.out]
      go_region
      all_goals
        go_wp2
        obtain ⟨W3, hW3⟩ : ∃ W3, W3 = W1.alloc (.cells #[] 101) := ⟨_, rfl⟩
        have hb3 : Below w.heap.size w W3 := by have h := HB12.out; rw [HHW2.out] at h; rw [hW3]; exact ⟨h.os, h.tape, h.output, h.size, h.block⟩
        rw [← hW3] at hs1 e1' ⊢
        have hs3 : Sl W3 w.heap.size 2 (.slice (some ⟨W1.heap.size, 0, none⟩) 0 0) 0 [] := hs1
        have hz1 := HZ1.out
        have hc6 : (W3.setCell ⟨w.heap.size + 1, 0, none⟩ (.slice (some ⟨W1.heap.size, 0, none⟩) 0 0)).cell? ⟨w.heap.size + 1, 0, none⟩ = some (.slice (some ⟨W1.heap.size, 0, none⟩) 0 0) := cell_setCell_same _ _ _ _ (by rw [e1']; rfl)
        obtain ⟨W6, hW6⟩ : ∃ W6, W6 = W3.setCell ⟨w.heap.size + 1, 0, none⟩ (.slice (some ⟨W1.heap.size, 0, none⟩) 0 0) := ⟨_, rfl⟩
        have hb6 : Below w.heap.size w W6 := by rw [hW6]; exact hb3.setCell (p := ⟨w.heap.size + 1, 0, none⟩) (by simp only; omega) _
        have hs6 : Sl W6 w.heap.size 2 (.slice (some ⟨W1.heap.size, 0, none⟩) 0 0) 0 [] := by
          rw [hW6]
          exact hs3.same (by simp [World.setCell]) (fun k hk => Below.heap_setCell _ _ _ _ (by have : k = W1.heap.size := (Option.some.inj hk).symm; simp only; omega))
        rw [← hW6] at hc6
        have hD : (W3.setCell ⟨w.heap.size + 1, 0, none⟩ (.slice (some ⟨W1.heap.size, 0, none⟩) 0 0)).drew = W6.drew := by rw [hW6]
        rw [hD]
        have hc7 : W6.drew.cell? ⟨w.heap.size + 1, 0, none⟩ = some (.slice (some ⟨W1.heap.size, 0, none⟩) 0 0) := hc6
        refine bodyPost_ret (by simp [results, Try.results60, go_sem, hc6]; rfl) rfl ?_
        exact ⟨_, rfl, hs6.drew, hb6.drew⟩
    · have hc2 : 1 < cap := by omega
      clear hW1 hW2
      go_enter Try.func60, Try.ntmps60
      go_wp2_with fail
      rw [← HHW.out]
      rw [HHW2.out] at hs1 hnw n3 HK
      go_region_law (refine step_append_sl rfl _ _ 26 rfl w.heap.size 101 i0 (.agg #[.int .i64 0, .bool false]) 2 16 Try.underlying26 Hi.out Hz.out Hs.out Hb.out rfl (by decide) _ 0 [] rfl hs1 ⟨g, off + 2, none⟩ n (cap - 1) (ftc A) rfl hl2 (hnw _ rfl) (ftc_one _) n1 n2 n3 ?_; intro v' w5 hx5; obtain ⟨⟨a5, c5, rfl⟩, hown, p1, pf1, p3⟩ := HK.out v' w5 hx5)
      all_goals
        go_wp2
        have hc6 : (w5.setCell ⟨w.heap.size + 1, 0, none⟩ (.slice a5 n c5)).cell? ⟨w.heap.size + 1, 0, none⟩ = some (.slice a5 n c5) := cell_setCell_same _ _ _ _ (by rw [p1]; rfl)
        have hs5 := hx5.now
        rw [Nat.zero_add, List.nil_append] at hs5
        have hb5 : Below w.heap.size w w5 := HB12.out.trans (by have := hx5.below (B := w.heap.size) (Nat.le_refl _) (by have := n3; exact this); rw [HHW2.out]; exact this)
        obtain ⟨W6, hW6⟩ : ∃ W6, W6 = w5.setCell ⟨w.heap.size + 1, 0, none⟩ (.slice a5 n c5) := ⟨_, rfl⟩
        rw [← hW6] at hc6 ⊢
        have hb6 : Below w.heap.size w W6 := by rw [hW6]; exact hb5.setCell (p := ⟨w.heap.size + 1, 0, none⟩) (by simp only; omega) _
        have hs6 : Sl W6 w.heap.size 2 (.slice a5 n c5) n (ftc A) := by
          rw [hW6]
          exact hs5.same (by simp [World.setCell]) (fun k hk => Below.heap_setCell _ _ _ _ (hown k hk))
        refine bodyPost_ret (by simp [results, Try.results60, go_sem, hc6]; rfl) rfl ?_
        exact ⟨_, rfl, hs6, hb6⟩
end Go.Proofs.Ytnjoojffefhgpaa

namespace Go.Proofs.Ytnjoojffefhgpaa
open Go.RowKit Go.Lib Go.ChangeShapes Go.WideShapes Go.Conc Go.Deep

def BoolsAt (w : World) (a : Option Addr) (len : Nat) (zs : List Bool) : Prop :=
  zs.length = min len 40 ∧ (0 < len → ∃ g off, a = some ⟨g, off, none⟩ ∧ g < w.heap.size ∧ ∀ j, j < zs.length → w.cell? ⟨g, off + j, none⟩ = some (.bool (zs.getD j false)))

/-- The document's Try, whatever its faults. -/
theorem rtry_any (base : Nat) (v : Value) (A : List Ft) (w : World) (h : Sl w base 2 v A.length (ftc A)) (hb : base ≤ w.heap.size) (hA : A.length ≤ 101) (hf : ∀ x ∈ A, Ft.Fits x) :
    Calls Try.prog 60 #[.agg #[v]] w fun e w' => ∃ v', e = .returned (.tuple #[.agg #[v'], .bool (tryL A).1.1, .bool (tryL A).1.2]) ∧ Sl w' base 2 v' (tryL A).2.length (ftc (tryL A).2) ∧ Below w.heap.size w w' := by
  match A, h with
  | [], h =>
    refine (rtry_none base v w h).mono ?_
    rintro e w' ⟨rfl, b⟩
    exact ⟨v, rfl, h.on b, b⟩
  | x :: A, h =>
    have hx := hf x List.mem_cons_self
    unfold Ft.Fits at hx
    by_cases hp : 0 < x.1
    · refine (rtry_later base v x A w h hp hx.2 (by simp at hA; omega)).mono ?_
      rintro e w' ⟨v', rfl, hs, b⟩
      have ht : tryL (x :: A) = ((true, true), (x.1 - 1, x.2) :: A) := by simp only [tryL]; rw [if_pos (show x.1 > 0 from hp)]
      rw [ht]
      exact ⟨v', rfl, hs.mono hb, b⟩
    · refine (rtry_last base v x A w h hp (by simp at hA; omega)).mono ?_
      rintro e w' ⟨v', rfl, hs, b⟩
      have ht : tryL (x :: A) = ((false, x.2), A) := by simp only [tryL]; rw [if_neg (show ¬ x.1 > 0 from hp)]
      rw [ht]
      exact ⟨v', rfl, hs.mono hb, b⟩
end Go.Proofs.Ytnjoojffefhgpaa

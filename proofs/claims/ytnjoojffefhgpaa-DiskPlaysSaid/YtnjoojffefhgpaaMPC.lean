/- The document's Ask. -/
import Derived.Test.YtnjoojffefhgpaaMPB
namespace Go.Proofs.Ytnjoojffefhgpaa
open Go.Conc Go.RowKit
set_option linter.unusedVariables false

/-- The two boxes behind a call, and behind the fuse's store. -/
theorem box_facts (w V1 : World) (v u u' z : Value) (T F : TypeId) (b : Below ((w.alloc (.cells #[v, u] T)).alloc (.cells #[z, z] T)).heap.size ((w.alloc (.cells #[v, u] T)).alloc (.cells #[z, z] T)) V1) :
    w.heap.size + 2 ≤ V1.heap.size ∧ V1.cell? ⟨w.heap.size, 0, none⟩ = some v ∧ V1.cell? ⟨w.heap.size, 1, none⟩ = some u ∧ (∀ o, V1.frozen? ⟨w.heap.size, o, none⟩ = false) ∧
    ∀ W, W = ((V1.setCell ⟨w.heap.size, 1, none⟩ u').alloc (.cells #[u'] F)) → (W.cell? ⟨w.heap.size, 0, none⟩ = some v ∧ W.cell? ⟨w.heap.size, 1, none⟩ = some u' ∧ W.cell? ⟨w.heap.size + 1, 0, none⟩ = some z ∧ W.cell? ⟨w.heap.size + 1, 1, none⟩ = some z ∧
    (∀ o, W.frozen? ⟨w.heap.size, o, none⟩ = false ∧ W.frozen? ⟨w.heap.size + 1, o, none⟩ = false) ∧ Below w.heap.size w W ∧ w.heap.size + 2 ≤ W.heap.size ∧ (∀ k, k < V1.heap.size → k ≠ w.heap.size → W.heap[k]? = V1.heap[k]?)) := by
  obtain ⟨V, hV⟩ : ∃ V, V = (w.alloc (.cells #[v, u] T)).alloc (.cells #[z, z] T) := ⟨_, rfl⟩
  have z2 : V.heap.size = w.heap.size + 2 := by rw [hV]; simp
  have g0 : V.heap[w.heap.size]? = some (.cells #[v, u] T) := by
    rw [hV, Below.heap_alloc _ _ _ (by simp)]; exact heap_alloc_new w _
  have g1 : V.heap[w.heap.size + 1]? = some (.cells #[z, z] T) := by
    have := heap_alloc_new (w.alloc (.cells #[v, u] T)) (.cells #[z, z] T)
    rw [show (w.alloc (.cells #[v, u] T)).heap.size = w.heap.size + 1 by simp] at this
    rw [hV]; exact this
  rw [← hV] at b
  have h0 := (b.block w.heap.size (by omega)).trans g0
  have h1 := (b.block (w.heap.size + 1) (by omega)).trans g1
  have hz := b.size
  have e0 : V1.cell? ⟨w.heap.size, 0, none⟩ = some v := (cell_of_row _ _ 0 _ _ _ h0).trans rfl
  have e1 : V1.cell? ⟨w.heap.size, 1, none⟩ = some u := (cell_of_row _ _ 1 _ _ _ h0).trans rfl
  have e2 : V1.cell? ⟨w.heap.size + 1, 0, none⟩ = some z := (cell_of_row _ _ 0 _ _ _ h1).trans rfl
  have e3 : V1.cell? ⟨w.heap.size + 1, 1, none⟩ = some z := (cell_of_row _ _ 1 _ _ _ h1).trans rfl
  have hbw : Below w.heap.size w V1 := by
    refine Below.trans ?_ (b.mono (by omega))
    rw [hV]; exact ((Below.refl w.heap.size w).alloc (Nat.le_refl _) _).alloc (by simp) _
  have s1 : (V1.setCell ⟨w.heap.size, 1, none⟩ u').heap.size = V1.heap.size := by simp
  have up : ∀ p : Addr, p.block < V1.heap.size → ((V1.setCell ⟨w.heap.size, 1, none⟩ u').alloc (.cells #[u'] F)).cell? p = (V1.setCell ⟨w.heap.size, 1, none⟩ u').cell? p := fun p hp => ((Below.refl V1.heap.size (V1.setCell ⟨w.heap.size, 1, none⟩ u')).alloc (by omega) _).cell hp
  have upf : ∀ p : Addr, p.block < V1.heap.size → ((V1.setCell ⟨w.heap.size, 1, none⟩ u').alloc (.cells #[u'] F)).frozen? p = (V1.setCell ⟨w.heap.size, 1, none⟩ u').frozen? p := fun p hp => ((Below.refl V1.heap.size (V1.setCell ⟨w.heap.size, 1, none⟩ u')).alloc (by omega) _).frozen hp
  have f0 : ∀ o, V1.frozen? ⟨w.heap.size, o, none⟩ = false := fun o => by simp only [World.frozen?, h0]; rfl
  have f1 : ∀ o, V1.frozen? ⟨w.heap.size + 1, o, none⟩ = false := fun o => by simp only [World.frozen?, h1]; rfl
  refine ⟨by omega, e0, e1, f0, fun W hW => ?_⟩
  subst hW
  refine ⟨?_, ?_, ?_, ?_, fun o => ⟨?_, ?_⟩, ?_, by simp; omega, fun k hk hne => ?_⟩
  · rw [up _ (by simp only; omega), cell_setCell_other _ _ _ _ _ (.inr (by simp))]; exact e0
  · rw [up _ (by simp only; omega)]; exact cell_setCell_same _ _ _ _ (by rw [e1]; rfl)
  · rw [up _ (by simp only; omega), cell_setCell_other _ _ _ _ _ (.inl (by simp))]; exact e2
  · rw [up _ (by simp only; omega), cell_setCell_other _ _ _ _ _ (.inl (by simp))]; exact e3
  · rw [upf _ (by simp only; omega)]; simp [f0]
  · rw [upf _ (by simp only; omega)]; simp [f1]
  · exact (hbw.setCell (p := ⟨w.heap.size, 1, none⟩) (Nat.le_refl _) _).alloc (by omega) _
  · rw [Below.heap_alloc _ _ _ (by omega)]
    exact Below.heap_setCell _ _ _ _ (by simp only; omega)

theorem rtry_own (base : Nat) (v : Value) (A : List Ft) (w : World) (h : Sl w base 2 v A.length (ftc A)) (hb : base ≤ w.heap.size) (hA : A.length ≤ 101) (hf : ∀ x ∈ A, Ft.Fits x) :
    Calls Try.prog 60 #[.agg #[v]] w fun e w' => ∃ v', e = .returned (.tuple #[.agg #[v'], .bool (tryL A).1.1, .bool (tryL A).1.2]) ∧ Sl w' base 2 v' (tryL A).2.length (ftc (tryL A).2) ∧ (∀ k, v'.ownBlock = some k → w.heap.size ≤ k ∨ v.ownBlock = some k) ∧ Below w.heap.size w w' := by
  match A, h with
  | [], h =>
    refine (rtry_none base v w h).mono ?_
    rintro e w' ⟨rfl, b⟩
    exact ⟨v, rfl, h.on b, fun k hk => .inr hk, b⟩
  | x :: A, h =>
    have hx := hf x List.mem_cons_self
    unfold Ft.Fits at hx
    by_cases hp : 0 < x.1
    · refine (rtry_later base v x A w h hp hx.2 (by simp at hA; omega)).mono ?_
      rintro e w' ⟨v', rfl, hs, b⟩
      have ht : tryL (x :: A) = ((true, true), (x.1 - 1, x.2) :: A) := by simp only [tryL]; rw [if_pos (show x.1 > 0 from hp)]
      rw [ht]
      exact ⟨v', rfl, hs.mono hb, fun k hk => .inl (hs.lt k hk).1, b⟩
    · refine (rtry_last base v x A w h hp (by simp at hA; omega)).mono ?_
      rintro e w' ⟨v', rfl, hs, b⟩
      have ht : tryL (x :: A) = ((false, x.2), A) := by simp only [tryL]; rw [if_neg (show ¬ x.1 > 0 from hp)]
      rw [ht]
      exact ⟨v', rfl, hs.mono hb, fun k hk => .inl (hs.lt k hk).1, b⟩

set_option maxHeartbeats 2000000 in
set_option maxRecDepth 100000 in
theorem rask_any (base : Nat) (v u : Value) (A : List Ft) (w : World) (hv : ∃ a n c, v = .slice a n c) (hu : Sl w base 2 u A.length (ftc A)) (hb : base ≤ w.heap.size) (hA : A.length ≤ 101) (hf : ∀ x ∈ A, Ft.Fits x) :
    Calls Try.prog 40 #[rbv v u] w fun e w' => ∃ u', e = .returned (.tuple #[rbv v u', .int .i64 (if (tryL A).1.1 = true then 0 else 8)]) ∧ Sl w' base 2 u' (tryL A).2.length (ftc (tryL A).2) ∧ (∀ k, u'.ownBlock = some k → u.ownBlock = some k ∨ w.heap.size ≤ k) ∧ Below w.heap.size w w' := by
  have HT := Lib.hid (fun W (k : Below w.heap.size w W) => rtry_own base u A W (hu.on k) (Nat.le_trans hb k.size) hA hf)
  obtain ⟨wk, hwk⟩ : ∃ wk, wk = (tryL A).1.1 := ⟨_, rfl⟩
  obtain ⟨dn, hdn⟩ : ∃ dn, dn = (tryL A).1.2 := ⟨_, rfl⟩
  obtain ⟨B, hB⟩ : ∃ B, B = (tryL A).2 := ⟨_, rfl⟩
  rw [← hwk, ← hdn, ← hB] at HT
  rw [← hwk, ← hB]
  obtain ⟨n0, hn0⟩ : ∃ n, n = A.length := ⟨_, rfl⟩
  rw [← hn0] at hu
  obtain ⟨va, vn, vc, rfl⟩ := hv
  obtain ⟨ua, uc, rfl⟩ := hu.slice
  have HBZ := Lib.hid hb
  have UL := Lib.hid (fun k hk => (hu.lt k hk).2)
  have TW := Lib.hid (HT.out _ (((Below.refl w.heap.size w).alloc (Nat.le_refl _) (.cells #[.slice va vn vc, .slice ua n0 uc] 52)).alloc (by simp) (.cells #[.slice none 0 0, .slice none 0 0] 52)))
  clear hwk hdn hB hn0 hb hu hf hA HT
  unfold rbv
  go_enter Try.func40, Try.ntmps40
  go_wp2_with fail
  refine TW.out.mono ?_
  rintro e V1 ⟨u', rfl, su, so, b⟩
  obtain ⟨ua', uc', rfl⟩ := su.slice
  obtain ⟨z1, k0, k1, f0, hBF⟩ := box_facts w V1 _ _ (.slice ua' B.length uc') _ 52 28 b
  have SU := Lib.hid (show Sl V1 base 2 (.slice ua' B.length uc') B.length (ftc B) ∧ ∀ k, (Value.slice ua' B.length uc').ownBlock = some k → k ≠ w.heap.size ∧ k ≠ w.heap.size + 1 from ⟨su, fun k hk => by
    rcases so k hk with h | h
    · simp only [World.size_alloc] at h; omega
    · have := UL.out k h; omega⟩)
  have f0' := f0 1
  have OU := Lib.hid (show ∀ k, (Value.slice ua' B.length uc').ownBlock = some k → (Value.slice ua n0 uc).ownBlock = some k ∨ w.heap.size ≤ k from fun k hk => by
    rcases so k hk with h | h
    · simp only [World.size_alloc] at h; exact .inr (by omega)
    · exact .inl h)
  have hh : w.heap.size < V1.heap.size := by omega
  have BF := Lib.hid hBF
  have Z1 := Lib.hid z1
  clear b su so TW f0 z1 hBF UL
  go_upto_region 3 with fail
  obtain ⟨W, hW⟩ : ∃ W, W = (V1.setCell ⟨w.heap.size, 1, none⟩ (.slice ua' B.length uc')).alloc (.cells #[.slice ua' B.length uc'] 28) := ⟨_, rfl⟩
  obtain ⟨m0, m1, m2, m3, mf, mb, ms, mh⟩ := BF.out W hW
  rw [← hW]
  have HZW := Lib.hid (show V1.heap.size ≤ W.heap.size by rw [hW]; simp)
  have MB := Lib.hid mb
  have MH := Lib.hid mh
  have f10 := (mf 0).2
  have f11 := (mf 1).2
  have MS := Lib.hid ms
  clear hW mb mh mf ms BF k0 k1 f0' hh
  cases wk
  · go_wp2_with fail
    obtain ⟨W6, hW6⟩ : ∃ W6, W6 = (W.setCell ⟨w.heap.size + 1, 0, none⟩ (.slice va vn vc)).setCell ⟨w.heap.size + 1, 1, none⟩ (.slice ua' B.length uc') := ⟨_, rfl⟩
    have c0 : W6.cell? ⟨w.heap.size + 1, 0, none⟩ = some (.slice va vn vc) := by
      rw [hW6, cell_setCell_other _ _ _ _ _ (.inr (by simp))]
      exact cell_setCell_same _ _ _ _ (by rw [m2]; rfl)
    have c1 : W6.cell? ⟨w.heap.size + 1, 1, none⟩ = some (.slice ua' B.length uc') := by
      rw [hW6]
      exact cell_setCell_same _ _ _ _ (by rw [cell_setCell_other _ _ _ _ _ (.inr (by simp)), m3]; rfl)
    have hb6 : Below w.heap.size w W6 := by
      rw [hW6]
      exact (MB.out.setCell (p := ⟨w.heap.size + 1, 0, none⟩) (by simp only; omega) _).setCell (p := ⟨w.heap.size + 1, 1, none⟩) (by simp only; omega) _
    have hs6 : Sl W6 base 2 (.slice ua' B.length uc') B.length (ftc B) := by
      rw [hW6]
      refine Sl.same SU.out.1 (by simp [World.setCell]; have := MS.out; have := Z1.out; have := HZW.out; omega) fun k hk => ?_
      have h1 := (SU.out.1.lt k hk).2
      have h2 := SU.out.2 k hk
      rw [Below.heap_setCell _ _ _ _ (by simp only; omega), Below.heap_setCell _ _ _ _ (by simp only; omega)]
      exact MH.out k h1 h2.1
    rw [← hW6]
    refine bodyPost_ret (by simp [results, Try.results40, go_sem, c0, c1]; rfl) rfl ?_
    exact ⟨_, rfl, hs6, OU.out, hb6⟩
  · go_wp2_with fail
    obtain ⟨W6, hW6⟩ : ∃ W6, W6 = (W.setCell ⟨w.heap.size + 1, 0, none⟩ (.slice va vn vc)).setCell ⟨w.heap.size + 1, 1, none⟩ (.slice ua' B.length uc') := ⟨_, rfl⟩
    have c0 : W6.cell? ⟨w.heap.size + 1, 0, none⟩ = some (.slice va vn vc) := by
      rw [hW6, cell_setCell_other _ _ _ _ _ (.inr (by simp))]
      exact cell_setCell_same _ _ _ _ (by rw [m2]; rfl)
    have c1 : W6.cell? ⟨w.heap.size + 1, 1, none⟩ = some (.slice ua' B.length uc') := by
      rw [hW6]
      exact cell_setCell_same _ _ _ _ (by rw [cell_setCell_other _ _ _ _ _ (.inr (by simp)), m3]; rfl)
    have hb6 : Below w.heap.size w W6 := by
      rw [hW6]
      exact (MB.out.setCell (p := ⟨w.heap.size + 1, 0, none⟩) (by simp only; omega) _).setCell (p := ⟨w.heap.size + 1, 1, none⟩) (by simp only; omega) _
    have hs6 : Sl W6 base 2 (.slice ua' B.length uc') B.length (ftc B) := by
      rw [hW6]
      refine Sl.same SU.out.1 (by simp [World.setCell]; have := MS.out; have := Z1.out; have := HZW.out; omega) fun k hk => ?_
      have h1 := (SU.out.1.lt k hk).2
      have h2 := SU.out.2 k hk
      rw [Below.heap_setCell _ _ _ _ (by simp only; omega), Below.heap_setCell _ _ _ _ (by simp only; omega)]
      exact MH.out k h1 h2.1
    rw [← hW6]
    refine bodyPost_ret (by simp [results, Try.results40, go_sem, c0, c1]; rfl) rfl ?_
    exact ⟨_, rfl, hs6, OU.out, hb6⟩
end Go.Proofs.Ytnjoojffefhgpaa

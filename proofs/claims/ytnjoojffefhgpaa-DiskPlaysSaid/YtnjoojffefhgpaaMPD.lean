/- The document's Change. -/
import Derived.Test.YtnjoojffefhgpaaMPC
namespace Go.Proofs.Ytnjoojffefhgpaa
open Go.Conc Go.RowKit
set_option linter.unusedVariables false

/-- The three boxes behind a call, and behind the fuse's store. -/
theorem box3_facts (w V1 : World) (v u u' z x0 x1 x2 : Value) (T O F : TypeId) (b : Below (((w.alloc (.cells #[v, u] T)).alloc (.cells #[x0, x1, x2] O)).alloc (.cells #[z, z] T)).heap.size (((w.alloc (.cells #[v, u] T)).alloc (.cells #[x0, x1, x2] O)).alloc (.cells #[z, z] T)) V1) :
    w.heap.size + 3 ≤ V1.heap.size ∧ V1.cell? ⟨w.heap.size, 1, none⟩ = some u ∧ V1.frozen? ⟨w.heap.size, 1, none⟩ = false ∧
    ∀ W, W = ((V1.setCell ⟨w.heap.size, 1, none⟩ u').alloc (.cells #[u'] F)) → (W.cell? ⟨w.heap.size, 0, none⟩ = some v ∧ W.cell? ⟨w.heap.size, 1, none⟩ = some u' ∧ W.cell? ⟨w.heap.size + 1 + 1, 0, none⟩ = some z ∧ W.cell? ⟨w.heap.size + 1 + 1, 1, none⟩ = some z ∧
    (∀ o, W.frozen? ⟨w.heap.size, o, none⟩ = false ∧ W.frozen? ⟨w.heap.size + 1 + 1, o, none⟩ = false) ∧ W.cell? ⟨w.heap.size + 1, 0, none⟩ = some x0 ∧ W.cell? ⟨w.heap.size + 1, 1, none⟩ = some x1 ∧ W.cell? ⟨w.heap.size + 1, 2, none⟩ = some x2 ∧ Below w.heap.size w W ∧ w.heap.size + 3 ≤ W.heap.size ∧ (∀ k, k < V1.heap.size → k ≠ w.heap.size → W.heap[k]? = V1.heap[k]?)) := by
  obtain ⟨V, hV⟩ : ∃ V, V = (((w.alloc (.cells #[v, u] T)).alloc (.cells #[x0, x1, x2] O)).alloc (.cells #[z, z] T)) := ⟨_, rfl⟩
  have s1 : (w.alloc (.cells #[v, u] T)).heap.size = w.heap.size + 1 := by simp
  have s2 : ((w.alloc (.cells #[v, u] T)).alloc (.cells #[x0, x1, x2] O)).heap.size = w.heap.size + 1 + 1 := by simp
  have z2 : V.heap.size = w.heap.size + 3 := by rw [hV]; simp
  have g0 : V.heap[w.heap.size]? = some (.cells #[v, u] T) := by
    rw [hV, Below.heap_alloc _ _ _ (by omega), Below.heap_alloc _ _ _ (by omega)]; exact heap_alloc_new w _
  have g1 : V.heap[w.heap.size + 1]? = some (.cells #[x0, x1, x2] O) := by
    have := heap_alloc_new (w.alloc (.cells #[v, u] T)) (.cells #[x0, x1, x2] O)
    rw [s1] at this
    rw [hV, Below.heap_alloc _ _ _ (by omega)]; exact this
  have g2 : V.heap[w.heap.size + 1 + 1]? = some (.cells #[z, z] T) := by
    have := heap_alloc_new ((w.alloc (.cells #[v, u] T)).alloc (.cells #[x0, x1, x2] O)) (.cells #[z, z] T)
    rw [s2] at this
    rw [hV]; exact this
  have hbV : Below w.heap.size w V := by rw [hV]; exact (((Below.refl _ _).alloc (Nat.le_refl _) _).alloc (by omega) _).alloc (by omega) _
  rw [← hV] at b
  have h0 := (b.block w.heap.size (by omega)).trans g0
  have h1 := (b.block (w.heap.size + 1) (by omega)).trans g1
  have h2 := (b.block (w.heap.size + 1 + 1) (by omega)).trans g2
  have hz := b.size
  have e0 : V1.cell? ⟨w.heap.size, 0, none⟩ = some v := (cell_of_row _ _ 0 _ _ _ h0).trans rfl
  have e1 : V1.cell? ⟨w.heap.size, 1, none⟩ = some u := (cell_of_row _ _ 1 _ _ _ h0).trans rfl
  have y0 : V1.cell? ⟨w.heap.size + 1, 0, none⟩ = some x0 := (cell_of_row _ _ 0 _ _ _ h1).trans rfl
  have y1 : V1.cell? ⟨w.heap.size + 1, 1, none⟩ = some x1 := (cell_of_row _ _ 1 _ _ _ h1).trans rfl
  have y2 : V1.cell? ⟨w.heap.size + 1, 2, none⟩ = some x2 := (cell_of_row _ _ 2 _ _ _ h1).trans rfl
  have e2 : V1.cell? ⟨w.heap.size + 1 + 1, 0, none⟩ = some z := (cell_of_row _ _ 0 _ _ _ h2).trans rfl
  have e3 : V1.cell? ⟨w.heap.size + 1 + 1, 1, none⟩ = some z := (cell_of_row _ _ 1 _ _ _ h2).trans rfl
  have hbw : Below w.heap.size w V1 := hbV.trans (b.mono (by omega))
  have s3 : (V1.setCell ⟨w.heap.size, 1, none⟩ u').heap.size = V1.heap.size := by simp
  have up : ∀ p : Addr, p.block < V1.heap.size → ((V1.setCell ⟨w.heap.size, 1, none⟩ u').alloc (.cells #[u'] F)).cell? p = (V1.setCell ⟨w.heap.size, 1, none⟩ u').cell? p := fun p hp => ((Below.refl V1.heap.size (V1.setCell ⟨w.heap.size, 1, none⟩ u')).alloc (by omega) _).cell hp
  have upf : ∀ p : Addr, p.block < V1.heap.size → ((V1.setCell ⟨w.heap.size, 1, none⟩ u').alloc (.cells #[u'] F)).frozen? p = (V1.setCell ⟨w.heap.size, 1, none⟩ u').frozen? p := fun p hp => ((Below.refl V1.heap.size (V1.setCell ⟨w.heap.size, 1, none⟩ u')).alloc (by omega) _).frozen hp
  have f0 : ∀ o, V1.frozen? ⟨w.heap.size, o, none⟩ = false := fun o => by simp only [World.frozen?, h0]; rfl
  have f1 : ∀ o, V1.frozen? ⟨w.heap.size + 1 + 1, o, none⟩ = false := fun o => by simp only [World.frozen?, h2]; rfl
  have n1 : w.heap.size + 1 ≠ w.heap.size := by omega
  have n2 : w.heap.size + 1 + 1 ≠ w.heap.size := by omega
  refine ⟨by omega, e1, f0 1, fun W hW => ?_⟩
  subst hW
  refine ⟨?_, ?_, ?_, ?_, fun o => ⟨?_, ?_⟩, ?_, ?_, ?_, ?_, by simp; omega, fun k hk hne => ?_⟩
  · rw [up _ (by simp only; omega), cell_setCell_other _ _ _ _ _ (.inr (by simp))]; exact e0
  · rw [up _ (by simp only; omega)]; exact cell_setCell_same _ _ _ _ (by rw [e1]; rfl)
  · rw [up _ (by simp only; omega), cell_setCell_other _ _ _ _ _ (.inl n2)]; exact e2
  · rw [up _ (by simp only; omega), cell_setCell_other _ _ _ _ _ (.inl n2)]; exact e3
  · rw [upf _ (by simp only; omega)]; simp [f0]
  · rw [upf _ (by simp only; omega)]; simp [f1]
  · rw [up _ (by simp only; omega), cell_setCell_other _ _ _ _ _ (.inl n1)]; exact y0
  · rw [up _ (by simp only; omega), cell_setCell_other _ _ _ _ _ (.inl n1)]; exact y1
  · rw [up _ (by simp only; omega), cell_setCell_other _ _ _ _ _ (.inl n1)]; exact y2
  · exact (hbw.setCell (p := ⟨w.heap.size, 1, none⟩) (Nat.le_refl _) _).alloc (by omega) _
  · rw [Below.heap_alloc _ _ _ (by omega)]
    exact Below.heap_setCell _ _ _ _ (by simp only; omega)

/-- The document's list, faults and answer behind a change. -/
def chR (x : Rj) (put : Bool) (xs : List Rj) (A : List Ft) : List Rj × List Ft × Int :=
  if put = true ∧ (x.name.size = 0 ∨ 40 < x.name.size) then (xs, A, 1) else
  (if (tryL A).1.2 = true then (if put = true then withR x xs else outR x.name xs) else xs, (tryL A).2, if (tryL A).1.1 = true then 0 else 8)

set_option maxHeartbeats 4000000 in
set_option maxRecDepth 100000 in
theorem rchange_go (base : Nat) (v u : Value) (xs : List Rj) (A : List Ft) (x : Rj) (put : Bool) (w : World) (hs : Sl w base 3 v xs.length (rjc xs)) (hlen : xs.length ≤ 900) (hu : Sl w base 2 u A.length (ftc A)) (hb : base ≤ w.heap.size) (hA : A.length ≤ 101) (hf : ∀ x ∈ A, Ft.Fits x)
    (hg : ¬ (put = true ∧ (x.name.size = 0 ∨ 40 < x.name.size))) (hx : x.name.size ≤ 1000) :
    Calls Try.prog 39 #[rbv v u, .agg #[.string x.name, .string x.data, .int .i64 x.tm], .bool put] w fun e w' => ∃ v' u', e = .returned (.tuple #[rbv v' u', .int .i64 (chR x put xs A).2.2]) ∧ Sl w' base 3 v' (chR x put xs A).1.length (rjc (chR x put xs A).1) ∧ Sl w' base 2 u' (chR x put xs A).2.1.length (ftc (chR x put xs A).2.1) ∧ (∀ k, v'.ownBlock = some k → v.ownBlock = some k ∨ w.heap.size ≤ k) ∧ (∀ k, u'.ownBlock = some k → u.ownBlock = some k ∨ w.heap.size ≤ k) ∧ Below w.heap.size w w' := by
  unfold chR
  rw [if_neg hg]
  dsimp only
  have HT := Lib.hid (fun W (k : Below w.heap.size w W) => rtry_own base u A W (hu.on k) (Nat.le_trans hb k.size) hA hf)
  obtain ⟨wk, hwk⟩ : ∃ wk, wk = (tryL A).1.1 := ⟨_, rfl⟩
  obtain ⟨dn, hdn⟩ : ∃ dn, dn = (tryL A).1.2 := ⟨_, rfl⟩
  obtain ⟨B, hB⟩ : ∃ B, B = (tryL A).2 := ⟨_, rfl⟩
  rw [← hwk, ← hdn, ← hB] at HT
  rw [← hwk, ← hdn, ← hB]
  obtain ⟨n0, hn0⟩ : ∃ n, n = A.length := ⟨_, rfl⟩
  rw [← hn0] at hu
  have SV := Lib.hid hs
  have XL := Lib.hid hlen
  have VL := Lib.hid (fun k hk => (hs.lt k hk).2)
  obtain ⟨va, vc, rfl⟩ := hs.slice
  obtain ⟨ua, uc, rfl⟩ := hu.slice
  obtain ⟨m0, hm0⟩ : ∃ m, m = xs.length := ⟨_, rfl⟩
  rw [← hm0] at SV VL
  have HM0 := Lib.hid hm0
  have HBZ := Lib.hid hb
  have UL := Lib.hid (fun k hk => (hu.lt k hk).2)
  have TW := Lib.hid (HT.out _ ((((Below.refl w.heap.size w).alloc (Nat.le_refl _) (.cells #[.slice va m0 vc, .slice ua n0 uc] 52)).alloc (by simp) (.cells #[.string x.name, .string x.data, .int .i64 x.tm] 64)).alloc (by simp; omega) (.cells #[.slice none 0 0, .slice none 0 0] 52)))
  rw [← hm0]
  clear hwk hdn hB hn0 hb hu hf hA HT hlen hs hm0
  have hg1 : put = true → (x.name.toList == []) = false ∧ ¬ (40 : Int) < x.name.size := fun hp => by
    have h1 : ¬ (x.name.size = 0 ∨ 40 < x.name.size) := fun h => hg ⟨hp, h⟩
    refine ⟨?_, by omega⟩
    rw [Bool.eq_false_iff]
    intro e
    have e2 := eq_of_beq e
    rw [ByteArray.toList_eq] at e2
    have : x.name.size = 0 := by
      show x.name.data.size = 0
      rw [← Array.length_toList, e2]; rfl
    exact h1 (.inl this)
  unfold rbv
  clear hg
  go_enter Try.func39, Try.ntmps39
  cases put
  · clear hg1
    go_wp2_with fail
    refine TW.out.mono ?_
    rintro e V1 ⟨u', rfl, su, so, b⟩
    obtain ⟨ua', uc', rfl⟩ := su.slice
    obtain ⟨z1, k1, f0, hBF⟩ := box3_facts w V1 _ _ (.slice ua' B.length uc') _ _ _ _ _ _ 28 b
    have SU := Lib.hid (show Sl V1 base 2 (.slice ua' B.length uc') B.length (ftc B) ∧ ∀ k, (Value.slice ua' B.length uc').ownBlock = some k → k ≠ w.heap.size ∧ k ≠ w.heap.size + 1 + 1 from ⟨su, fun k hk => by
      rcases so k hk with h | h
      · simp only [World.size_alloc] at h; omega
      · have := UL.out k h; omega⟩)
    have OU := Lib.hid (show ∀ k, (Value.slice ua' B.length uc').ownBlock = some k → (Value.slice ua n0 uc).ownBlock = some k ∨ w.heap.size ≤ k from fun k hk => by
      rcases so k hk with h | h
      · simp only [World.size_alloc] at h; exact .inr (by omega)
      · exact .inl h)
    have hh : w.heap.size < V1.heap.size := by omega
    have BF := Lib.hid hBF
    have Z1 := Lib.hid z1
    clear b su so TW z1 hBF UL
    go_upto_region 5 with fail
    obtain ⟨W, hW⟩ : ∃ W, W = (V1.setCell ⟨w.heap.size, 1, none⟩ (.slice ua' B.length uc')).alloc (.cells #[.slice ua' B.length uc'] 28) := ⟨_, rfl⟩
    obtain ⟨m0', m1, m2, m3, mf, x0, x1, x2, mb, ms, mh⟩ := BF.out W hW
    rw [← hW]
    have hzw : V1.heap.size ≤ W.heap.size := by rw [hW]; simp
    have SUW := Lib.hid (show Sl W base 2 (.slice ua' B.length uc') B.length (ftc B) from Sl.same SU.out.1 hzw fun k hk => mh k (SU.out.1.lt k hk).2 (SU.out.2 k hk).1)
    have SVW := Lib.hid (show Sl W base 3 (.slice va m0 vc) m0 (rjc xs) from SV.out.on mb)
    have MB := Lib.hid mb
    have MS := Lib.hid ms
    have MF := Lib.hid mf
    have g00 := (mf 0).1
    have g01 := (mf 1).1
    have f10 := (mf 0).2
    have f11 := (mf 1).2
    have hhw : w.heap.size < W.heap.size := by omega
    clear hW mb mh mf ms BF k1 f0 hh hzw
    cases dn
    · obtain ⟨Wn, hWn⟩ : ∃ Wn, Wn = W := ⟨_, rfl⟩
      have WB := Lib.hid (show Below w.heap.size w W ∧ (Sl W base 3 (.slice va m0 vc) m0 (rjc xs) ∧ ∀ k, (Value.slice va m0 vc).ownBlock = some k → k ≠ w.heap.size + 1 + 1) ∧ (Sl W base 2 (.slice ua' B.length uc') B.length (ftc B) ∧ ∀ k, (Value.slice ua' B.length uc').ownBlock = some k → k ≠ w.heap.size + 1 + 1) from ⟨MB.out, ⟨SVW.out, fun k hk => by have := VL.out k hk; omega⟩, SUW.out, fun k hk => (SU.out.2 k hk).2⟩)
      have r0 := m2
      have r1 := m3
      rw [← hWn] at WB r0 r1 m0' m1 g00 g01 f10 f11 ⊢
      clear m2 m3 hWn x0 x1 x2 hhw SVW SV VL
      cases wk
      · go_wp2_with fail
        obtain ⟨W6, hW6⟩ : ∃ W6, W6 = (Wn.setCell ⟨w.heap.size + 1 + 1, 0, none⟩ (.slice va m0 vc)).setCell ⟨w.heap.size + 1 + 1, 1, none⟩ (.slice ua' B.length uc') := ⟨_, rfl⟩
        have c0 : W6.cell? ⟨w.heap.size + 1 + 1, 0, none⟩ = some (.slice va m0 vc) := by
          rw [hW6, cell_setCell_other _ _ _ _ _ (.inr (by simp))]
          exact cell_setCell_same _ _ _ _ (by rw [r0]; rfl)
        have c1 : W6.cell? ⟨w.heap.size + 1 + 1, 1, none⟩ = some (.slice ua' B.length uc') := by
          rw [hW6]
          exact cell_setCell_same _ _ _ _ (by rw [cell_setCell_other _ _ _ _ _ (.inr (by simp)), r1]; rfl)
        have hb6 : Below w.heap.size w W6 := by
          rw [hW6]
          exact (WB.out.1.setCell (p := ⟨w.heap.size + 1 + 1, 0, none⟩) (by simp only; omega) _).setCell (p := ⟨w.heap.size + 1 + 1, 1, none⟩) (by simp only; omega) _
        have hs6 : Sl W6 base 3 (.slice va m0 vc) m0 (rjc xs) := by
          rw [hW6]
          refine Sl.same WB.out.2.1.1 (by simp [World.setCell]) fun k hk => ?_
          have h2 := WB.out.2.1.2 k hk
          rw [Below.heap_setCell _ _ _ _ (by simp only; omega), Below.heap_setCell _ _ _ _ (by simp only; omega)]
        have hu6 : Sl W6 base 2 (.slice ua' B.length uc') B.length (ftc B) := by
          rw [hW6]
          refine Sl.same WB.out.2.2.1 (by simp [World.setCell]) fun k hk => ?_
          have h2 := WB.out.2.2.2 k hk
          rw [Below.heap_setCell _ _ _ _ (by simp only; omega), Below.heap_setCell _ _ _ _ (by simp only; omega)]
        rw [← hW6]
        refine bodyPost_ret (by simp [results, Try.results39, go_sem, c0, c1]; rfl) rfl ?_
        exact ⟨.slice va m0 vc, _, rfl, (by have h := hs6; rw [HM0.out] at h; rw [HM0.out]; exact h), hu6, fun k hk => .inl hk, OU.out, hb6⟩
      · go_wp2_with fail
        obtain ⟨W6, hW6⟩ : ∃ W6, W6 = (Wn.setCell ⟨w.heap.size + 1 + 1, 0, none⟩ (.slice va m0 vc)).setCell ⟨w.heap.size + 1 + 1, 1, none⟩ (.slice ua' B.length uc') := ⟨_, rfl⟩
        have c0 : W6.cell? ⟨w.heap.size + 1 + 1, 0, none⟩ = some (.slice va m0 vc) := by
          rw [hW6, cell_setCell_other _ _ _ _ _ (.inr (by simp))]
          exact cell_setCell_same _ _ _ _ (by rw [r0]; rfl)
        have c1 : W6.cell? ⟨w.heap.size + 1 + 1, 1, none⟩ = some (.slice ua' B.length uc') := by
          rw [hW6]
          exact cell_setCell_same _ _ _ _ (by rw [cell_setCell_other _ _ _ _ _ (.inr (by simp)), r1]; rfl)
        have hb6 : Below w.heap.size w W6 := by
          rw [hW6]
          exact (WB.out.1.setCell (p := ⟨w.heap.size + 1 + 1, 0, none⟩) (by simp only; omega) _).setCell (p := ⟨w.heap.size + 1 + 1, 1, none⟩) (by simp only; omega) _
        have hs6 : Sl W6 base 3 (.slice va m0 vc) m0 (rjc xs) := by
          rw [hW6]
          refine Sl.same WB.out.2.1.1 (by simp [World.setCell]) fun k hk => ?_
          have h2 := WB.out.2.1.2 k hk
          rw [Below.heap_setCell _ _ _ _ (by simp only; omega), Below.heap_setCell _ _ _ _ (by simp only; omega)]
        have hu6 : Sl W6 base 2 (.slice ua' B.length uc') B.length (ftc B) := by
          rw [hW6]
          refine Sl.same WB.out.2.2.1 (by simp [World.setCell]) fun k hk => ?_
          have h2 := WB.out.2.2.2 k hk
          rw [Below.heap_setCell _ _ _ _ (by simp only; omega), Below.heap_setCell _ _ _ _ (by simp only; omega)]
        rw [← hW6]
        refine bodyPost_ret (by simp [results, Try.results39, go_sem, c0, c1]; rfl) rfl ?_
        exact ⟨.slice va m0 vc, _, rfl, (by have h := hs6; rw [HM0.out] at h; rw [HM0.out]; exact h), hu6, fun k hk => .inl hk, OU.out, hb6⟩
    · have RW := rwithout_any base (.slice va m0 vc) (.slice ua' B.length uc') xs x.name W (by rw [← HM0.out]; exact SVW.out) (by have := XL.out; omega) ⟨_, _, _, rfl⟩
      unfold rbv at RW
      have RWh := Lib.hid RW
      clear RW
      go_wp2_with fail
      refine RWh.out.mono ?_
      rintro e w2 ⟨v2, rfl, s2, b2⟩
      obtain ⟨a2, c2, rfl⟩ := s2.slice
      have q0 := (b2.cell (p := ⟨w.heap.size, 0, none⟩) (by simp only; omega)).trans m0'
      have q1 := (b2.cell (p := ⟨w.heap.size, 1, none⟩) (by simp only; omega)).trans m1
      have q2 := (b2.cell (p := ⟨w.heap.size + 1 + 1, 0, none⟩) (by simp only; have := MS.out; omega)).trans m2
      have q3 := (b2.cell (p := ⟨w.heap.size + 1 + 1, 1, none⟩) (by simp only; have := MS.out; omega)).trans m3
      have h00 := (b2.frozen (p := ⟨w.heap.size, 0, none⟩) (by simp only; omega)).trans g00
      have h01 := (b2.frozen (p := ⟨w.heap.size, 1, none⟩) (by simp only; omega)).trans g01
      have h10 := (b2.frozen (p := ⟨w.heap.size + 1 + 1, 0, none⟩) (by simp only; have := MS.out; omega)).trans f10
      have h11 := (b2.frozen (p := ⟨w.heap.size + 1 + 1, 1, none⟩) (by simp only; have := MS.out; omega)).trans f11
      have S2 := Lib.hid s2
      have B2 := Lib.hid b2
      have OV := Lib.hid (show ∀ k, (Value.slice a2 (outR x.name xs).length c2).ownBlock = some k → (Value.slice va m0 vc).ownBlock = some k ∨ w.heap.size ≤ k from fun k hk => .inr (by have := (s2.lt k hk).1; omega))
      clear s2 b2 m0' m1 m2 m3 g00 g01 f10 f11 x0 x1 x2 hhw RWh SV VL
      go_upto_region 9 with fail
      obtain ⟨Wn, hWn⟩ : ∃ Wn, Wn = (w2.setCell ⟨w.heap.size, 0, none⟩ (.slice a2 (outR x.name xs).length c2)).setCell ⟨w.heap.size, 1, none⟩ (.slice ua' B.length uc') := ⟨_, rfl⟩
      have hne : w.heap.size + 1 + 1 ≠ w.heap.size := by omega
      have p0 : Wn.cell? ⟨w.heap.size, 0, none⟩ = some (.slice a2 (outR x.name xs).length c2) := by
        rw [hWn, cell_setCell_other _ _ _ _ _ (.inr (by simp))]
        exact cell_setCell_same _ _ _ _ (by rw [q0]; rfl)
      have p1 : Wn.cell? ⟨w.heap.size, 1, none⟩ = some (.slice ua' B.length uc') := by
        rw [hWn]
        exact cell_setCell_same _ _ _ _ (by rw [cell_setCell_other _ _ _ _ _ (.inr (by simp)), q1]; rfl)
      have r0 : Wn.cell? ⟨w.heap.size + 1 + 1, 0, none⟩ = some (.slice none 0 0) := by
        rw [hWn, cell_setCell_other _ _ _ _ _ (.inl hne), cell_setCell_other _ _ _ _ _ (.inl hne)]; exact q2
      have r1 : Wn.cell? ⟨w.heap.size + 1 + 1, 1, none⟩ = some (.slice none 0 0) := by
        rw [hWn, cell_setCell_other _ _ _ _ _ (.inl hne), cell_setCell_other _ _ _ _ _ (.inl hne)]; exact q3
      have j10 : Wn.frozen? ⟨w.heap.size + 1 + 1, 0, none⟩ = false := by rw [hWn]; simp [h10]
      have j11 : Wn.frozen? ⟨w.heap.size + 1 + 1, 1, none⟩ = false := by rw [hWn]; simp [h11]
      have WB := Lib.hid (show Below w.heap.size w Wn ∧ (Sl Wn base 3 (.slice a2 (outR x.name xs).length c2) (outR x.name xs).length (rjc (outR x.name xs)) ∧ ∀ k, (Value.slice a2 (outR x.name xs).length c2).ownBlock = some k → k ≠ w.heap.size + 1 + 1) ∧ (Sl Wn base 2 (.slice ua' B.length uc') B.length (ftc B) ∧ ∀ k, (Value.slice ua' B.length uc').ownBlock = some k → k ≠ w.heap.size + 1 + 1) from by
        have z1 := MS.out
        have z2 := B2.out.size
        refine ⟨?_, ⟨?_, fun k hk => ?_⟩, ?_, fun k hk => (SU.out.2 k hk).2⟩
        · rw [hWn]
          exact ((MB.out.trans (B2.out.mono (by omega))).setCell (p := ⟨w.heap.size, 0, none⟩) (Nat.le_refl _) _).setCell (p := ⟨w.heap.size, 1, none⟩) (Nat.le_refl _) _
        · rw [hWn]
          refine Sl.same (S2.out.mono (by have := HBZ.out; omega)) (by simp [World.setCell]) fun k hk => ?_
          have := (S2.out.lt k hk).1
          rw [Below.heap_setCell _ _ _ _ (by simp only; omega), Below.heap_setCell _ _ _ _ (by simp only; omega)]
        · have := (S2.out.lt k hk).1
          omega
        · rw [hWn]
          refine Sl.same (SUW.out.on B2.out) (by simp [World.setCell]) fun k hk => ?_
          have := (SU.out.2 k hk).1
          rw [Below.heap_setCell _ _ _ _ (by simp only; omega), Below.heap_setCell _ _ _ _ (by simp only; omega)])
      rw [← hWn]
      clear q0 q1 q2 q3 h00 h01 h10 h11 hWn
      cases wk
      · go_wp2_with fail
        obtain ⟨W6, hW6⟩ : ∃ W6, W6 = (Wn.setCell ⟨w.heap.size + 1 + 1, 0, none⟩ (.slice a2 (outR x.name xs).length c2)).setCell ⟨w.heap.size + 1 + 1, 1, none⟩ (.slice ua' B.length uc') := ⟨_, rfl⟩
        have c0 : W6.cell? ⟨w.heap.size + 1 + 1, 0, none⟩ = some (.slice a2 (outR x.name xs).length c2) := by
          rw [hW6, cell_setCell_other _ _ _ _ _ (.inr (by simp))]
          exact cell_setCell_same _ _ _ _ (by rw [r0]; rfl)
        have c1 : W6.cell? ⟨w.heap.size + 1 + 1, 1, none⟩ = some (.slice ua' B.length uc') := by
          rw [hW6]
          exact cell_setCell_same _ _ _ _ (by rw [cell_setCell_other _ _ _ _ _ (.inr (by simp)), r1]; rfl)
        have hb6 : Below w.heap.size w W6 := by
          rw [hW6]
          exact (WB.out.1.setCell (p := ⟨w.heap.size + 1 + 1, 0, none⟩) (by simp only; omega) _).setCell (p := ⟨w.heap.size + 1 + 1, 1, none⟩) (by simp only; omega) _
        have hs6 : Sl W6 base 3 (.slice a2 (outR x.name xs).length c2) (outR x.name xs).length (rjc (outR x.name xs)) := by
          rw [hW6]
          refine Sl.same WB.out.2.1.1 (by simp [World.setCell]) fun k hk => ?_
          have h2 := WB.out.2.1.2 k hk
          rw [Below.heap_setCell _ _ _ _ (by simp only; omega), Below.heap_setCell _ _ _ _ (by simp only; omega)]
        have hu6 : Sl W6 base 2 (.slice ua' B.length uc') B.length (ftc B) := by
          rw [hW6]
          refine Sl.same WB.out.2.2.1 (by simp [World.setCell]) fun k hk => ?_
          have h2 := WB.out.2.2.2 k hk
          rw [Below.heap_setCell _ _ _ _ (by simp only; omega), Below.heap_setCell _ _ _ _ (by simp only; omega)]
        rw [← hW6]
        refine bodyPost_ret (by simp [results, Try.results39, go_sem, c0, c1]; rfl) rfl ?_
        exact ⟨_, _, rfl, hs6, hu6, OV.out, OU.out, hb6⟩
      · go_wp2_with fail
        obtain ⟨W6, hW6⟩ : ∃ W6, W6 = (Wn.setCell ⟨w.heap.size + 1 + 1, 0, none⟩ (.slice a2 (outR x.name xs).length c2)).setCell ⟨w.heap.size + 1 + 1, 1, none⟩ (.slice ua' B.length uc') := ⟨_, rfl⟩
        have c0 : W6.cell? ⟨w.heap.size + 1 + 1, 0, none⟩ = some (.slice a2 (outR x.name xs).length c2) := by
          rw [hW6, cell_setCell_other _ _ _ _ _ (.inr (by simp))]
          exact cell_setCell_same _ _ _ _ (by rw [r0]; rfl)
        have c1 : W6.cell? ⟨w.heap.size + 1 + 1, 1, none⟩ = some (.slice ua' B.length uc') := by
          rw [hW6]
          exact cell_setCell_same _ _ _ _ (by rw [cell_setCell_other _ _ _ _ _ (.inr (by simp)), r1]; rfl)
        have hb6 : Below w.heap.size w W6 := by
          rw [hW6]
          exact (WB.out.1.setCell (p := ⟨w.heap.size + 1 + 1, 0, none⟩) (by simp only; omega) _).setCell (p := ⟨w.heap.size + 1 + 1, 1, none⟩) (by simp only; omega) _
        have hs6 : Sl W6 base 3 (.slice a2 (outR x.name xs).length c2) (outR x.name xs).length (rjc (outR x.name xs)) := by
          rw [hW6]
          refine Sl.same WB.out.2.1.1 (by simp [World.setCell]) fun k hk => ?_
          have h2 := WB.out.2.1.2 k hk
          rw [Below.heap_setCell _ _ _ _ (by simp only; omega), Below.heap_setCell _ _ _ _ (by simp only; omega)]
        have hu6 : Sl W6 base 2 (.slice ua' B.length uc') B.length (ftc B) := by
          rw [hW6]
          refine Sl.same WB.out.2.2.1 (by simp [World.setCell]) fun k hk => ?_
          have h2 := WB.out.2.2.2 k hk
          rw [Below.heap_setCell _ _ _ _ (by simp only; omega), Below.heap_setCell _ _ _ _ (by simp only; omega)]
        rw [← hW6]
        refine bodyPost_ret (by simp [results, Try.results39, go_sem, c0, c1]; rfl) rfl ?_
        exact ⟨_, _, rfl, hs6, hu6, OV.out, OU.out, hb6⟩
  · obtain ⟨h1, h2⟩ := hg1 rfl
    clear hg1
    go_wp2_with fail
    refine TW.out.mono ?_
    rintro e V1 ⟨u', rfl, su, so, b⟩
    obtain ⟨ua', uc', rfl⟩ := su.slice
    obtain ⟨z1, k1, f0, hBF⟩ := box3_facts w V1 _ _ (.slice ua' B.length uc') _ _ _ _ _ _ 28 b
    have SU := Lib.hid (show Sl V1 base 2 (.slice ua' B.length uc') B.length (ftc B) ∧ ∀ k, (Value.slice ua' B.length uc').ownBlock = some k → k ≠ w.heap.size ∧ k ≠ w.heap.size + 1 + 1 from ⟨su, fun k hk => by
      rcases so k hk with h | h
      · simp only [World.size_alloc] at h; omega
      · have := UL.out k h; omega⟩)
    have OU := Lib.hid (show ∀ k, (Value.slice ua' B.length uc').ownBlock = some k → (Value.slice ua n0 uc).ownBlock = some k ∨ w.heap.size ≤ k from fun k hk => by
      rcases so k hk with h | h
      · simp only [World.size_alloc] at h; exact .inr (by omega)
      · exact .inl h)
    have hh : w.heap.size < V1.heap.size := by omega
    have BF := Lib.hid hBF
    have Z1 := Lib.hid z1
    clear b su so TW z1 hBF UL
    go_upto_region 5 with fail
    obtain ⟨W, hW⟩ : ∃ W, W = (V1.setCell ⟨w.heap.size, 1, none⟩ (.slice ua' B.length uc')).alloc (.cells #[.slice ua' B.length uc'] 28) := ⟨_, rfl⟩
    obtain ⟨m0', m1, m2, m3, mf, x0, x1, x2, mb, ms, mh⟩ := BF.out W hW
    rw [← hW]
    have hzw : V1.heap.size ≤ W.heap.size := by rw [hW]; simp
    have SUW := Lib.hid (show Sl W base 2 (.slice ua' B.length uc') B.length (ftc B) from Sl.same SU.out.1 hzw fun k hk => mh k (SU.out.1.lt k hk).2 (SU.out.2 k hk).1)
    have SVW := Lib.hid (show Sl W base 3 (.slice va m0 vc) m0 (rjc xs) from SV.out.on mb)
    have MB := Lib.hid mb
    have MS := Lib.hid ms
    have MF := Lib.hid mf
    have g00 := (mf 0).1
    have g01 := (mf 1).1
    have f10 := (mf 0).2
    have f11 := (mf 1).2
    have hhw : w.heap.size < W.heap.size := by omega
    clear hW mb mh mf ms BF k1 f0 hh hzw
    cases dn
    · obtain ⟨Wn, hWn⟩ : ∃ Wn, Wn = W := ⟨_, rfl⟩
      have WB := Lib.hid (show Below w.heap.size w W ∧ (Sl W base 3 (.slice va m0 vc) m0 (rjc xs) ∧ ∀ k, (Value.slice va m0 vc).ownBlock = some k → k ≠ w.heap.size + 1 + 1) ∧ (Sl W base 2 (.slice ua' B.length uc') B.length (ftc B) ∧ ∀ k, (Value.slice ua' B.length uc').ownBlock = some k → k ≠ w.heap.size + 1 + 1) from ⟨MB.out, ⟨SVW.out, fun k hk => by have := VL.out k hk; omega⟩, SUW.out, fun k hk => (SU.out.2 k hk).2⟩)
      have r0 := m2
      have r1 := m3
      rw [← hWn] at WB r0 r1 m0' m1 g00 g01 f10 f11 ⊢
      clear m2 m3 hWn x0 x1 x2 hhw SVW SV VL
      cases wk
      · go_wp2_with fail
        obtain ⟨W6, hW6⟩ : ∃ W6, W6 = (Wn.setCell ⟨w.heap.size + 1 + 1, 0, none⟩ (.slice va m0 vc)).setCell ⟨w.heap.size + 1 + 1, 1, none⟩ (.slice ua' B.length uc') := ⟨_, rfl⟩
        have c0 : W6.cell? ⟨w.heap.size + 1 + 1, 0, none⟩ = some (.slice va m0 vc) := by
          rw [hW6, cell_setCell_other _ _ _ _ _ (.inr (by simp))]
          exact cell_setCell_same _ _ _ _ (by rw [r0]; rfl)
        have c1 : W6.cell? ⟨w.heap.size + 1 + 1, 1, none⟩ = some (.slice ua' B.length uc') := by
          rw [hW6]
          exact cell_setCell_same _ _ _ _ (by rw [cell_setCell_other _ _ _ _ _ (.inr (by simp)), r1]; rfl)
        have hb6 : Below w.heap.size w W6 := by
          rw [hW6]
          exact (WB.out.1.setCell (p := ⟨w.heap.size + 1 + 1, 0, none⟩) (by simp only; omega) _).setCell (p := ⟨w.heap.size + 1 + 1, 1, none⟩) (by simp only; omega) _
        have hs6 : Sl W6 base 3 (.slice va m0 vc) m0 (rjc xs) := by
          rw [hW6]
          refine Sl.same WB.out.2.1.1 (by simp [World.setCell]) fun k hk => ?_
          have h2 := WB.out.2.1.2 k hk
          rw [Below.heap_setCell _ _ _ _ (by simp only; omega), Below.heap_setCell _ _ _ _ (by simp only; omega)]
        have hu6 : Sl W6 base 2 (.slice ua' B.length uc') B.length (ftc B) := by
          rw [hW6]
          refine Sl.same WB.out.2.2.1 (by simp [World.setCell]) fun k hk => ?_
          have h2 := WB.out.2.2.2 k hk
          rw [Below.heap_setCell _ _ _ _ (by simp only; omega), Below.heap_setCell _ _ _ _ (by simp only; omega)]
        rw [← hW6]
        refine bodyPost_ret (by simp [results, Try.results39, go_sem, c0, c1]; rfl) rfl ?_
        exact ⟨.slice va m0 vc, _, rfl, (by have h := hs6; rw [HM0.out] at h; rw [HM0.out]; exact h), hu6, fun k hk => .inl hk, OU.out, hb6⟩
      · go_wp2_with fail
        obtain ⟨W6, hW6⟩ : ∃ W6, W6 = (Wn.setCell ⟨w.heap.size + 1 + 1, 0, none⟩ (.slice va m0 vc)).setCell ⟨w.heap.size + 1 + 1, 1, none⟩ (.slice ua' B.length uc') := ⟨_, rfl⟩
        have c0 : W6.cell? ⟨w.heap.size + 1 + 1, 0, none⟩ = some (.slice va m0 vc) := by
          rw [hW6, cell_setCell_other _ _ _ _ _ (.inr (by simp))]
          exact cell_setCell_same _ _ _ _ (by rw [r0]; rfl)
        have c1 : W6.cell? ⟨w.heap.size + 1 + 1, 1, none⟩ = some (.slice ua' B.length uc') := by
          rw [hW6]
          exact cell_setCell_same _ _ _ _ (by rw [cell_setCell_other _ _ _ _ _ (.inr (by simp)), r1]; rfl)
        have hb6 : Below w.heap.size w W6 := by
          rw [hW6]
          exact (WB.out.1.setCell (p := ⟨w.heap.size + 1 + 1, 0, none⟩) (by simp only; omega) _).setCell (p := ⟨w.heap.size + 1 + 1, 1, none⟩) (by simp only; omega) _
        have hs6 : Sl W6 base 3 (.slice va m0 vc) m0 (rjc xs) := by
          rw [hW6]
          refine Sl.same WB.out.2.1.1 (by simp [World.setCell]) fun k hk => ?_
          have h2 := WB.out.2.1.2 k hk
          rw [Below.heap_setCell _ _ _ _ (by simp only; omega), Below.heap_setCell _ _ _ _ (by simp only; omega)]
        have hu6 : Sl W6 base 2 (.slice ua' B.length uc') B.length (ftc B) := by
          rw [hW6]
          refine Sl.same WB.out.2.2.1 (by simp [World.setCell]) fun k hk => ?_
          have h2 := WB.out.2.2.2 k hk
          rw [Below.heap_setCell _ _ _ _ (by simp only; omega), Below.heap_setCell _ _ _ _ (by simp only; omega)]
        rw [← hW6]
        refine bodyPost_ret (by simp [results, Try.results39, go_sem, c0, c1]; rfl) rfl ?_
        exact ⟨.slice va m0 vc, _, rfl, (by have h := hs6; rw [HM0.out] at h; rw [HM0.out]; exact h), hu6, fun k hk => .inl hk, OU.out, hb6⟩
    · have RW := rwith_any base (.slice va m0 vc) (.slice ua' B.length uc') xs x W (by rw [← HM0.out]; exact SVW.out) XL.out ⟨_, _, _, rfl⟩
      unfold rbv at RW
      have RWh := Lib.hid RW
      clear RW
      go_wp2_with fail
      refine RWh.out.mono ?_
      rintro e w2 ⟨v2, rfl, s2, b2⟩
      obtain ⟨a2, c2, rfl⟩ := s2.slice
      have q0 := (b2.cell (p := ⟨w.heap.size, 0, none⟩) (by simp only; omega)).trans m0'
      have q1 := (b2.cell (p := ⟨w.heap.size, 1, none⟩) (by simp only; omega)).trans m1
      have q2 := (b2.cell (p := ⟨w.heap.size + 1 + 1, 0, none⟩) (by simp only; have := MS.out; omega)).trans m2
      have q3 := (b2.cell (p := ⟨w.heap.size + 1 + 1, 1, none⟩) (by simp only; have := MS.out; omega)).trans m3
      have h00 := (b2.frozen (p := ⟨w.heap.size, 0, none⟩) (by simp only; omega)).trans g00
      have h01 := (b2.frozen (p := ⟨w.heap.size, 1, none⟩) (by simp only; omega)).trans g01
      have h10 := (b2.frozen (p := ⟨w.heap.size + 1 + 1, 0, none⟩) (by simp only; have := MS.out; omega)).trans f10
      have h11 := (b2.frozen (p := ⟨w.heap.size + 1 + 1, 1, none⟩) (by simp only; have := MS.out; omega)).trans f11
      have S2 := Lib.hid s2
      have B2 := Lib.hid b2
      have OV := Lib.hid (show ∀ k, (Value.slice a2 (withR x xs).length c2).ownBlock = some k → (Value.slice va m0 vc).ownBlock = some k ∨ w.heap.size ≤ k from fun k hk => .inr (by have := (s2.lt k hk).1; omega))
      clear s2 b2 m0' m1 m2 m3 g00 g01 f10 f11 x0 x1 x2 hhw RWh SV VL
      go_upto_region 9 with fail
      obtain ⟨Wn, hWn⟩ : ∃ Wn, Wn = (w2.setCell ⟨w.heap.size, 0, none⟩ (.slice a2 (withR x xs).length c2)).setCell ⟨w.heap.size, 1, none⟩ (.slice ua' B.length uc') := ⟨_, rfl⟩
      have hne : w.heap.size + 1 + 1 ≠ w.heap.size := by omega
      have p0 : Wn.cell? ⟨w.heap.size, 0, none⟩ = some (.slice a2 (withR x xs).length c2) := by
        rw [hWn, cell_setCell_other _ _ _ _ _ (.inr (by simp))]
        exact cell_setCell_same _ _ _ _ (by rw [q0]; rfl)
      have p1 : Wn.cell? ⟨w.heap.size, 1, none⟩ = some (.slice ua' B.length uc') := by
        rw [hWn]
        exact cell_setCell_same _ _ _ _ (by rw [cell_setCell_other _ _ _ _ _ (.inr (by simp)), q1]; rfl)
      have r0 : Wn.cell? ⟨w.heap.size + 1 + 1, 0, none⟩ = some (.slice none 0 0) := by
        rw [hWn, cell_setCell_other _ _ _ _ _ (.inl hne), cell_setCell_other _ _ _ _ _ (.inl hne)]; exact q2
      have r1 : Wn.cell? ⟨w.heap.size + 1 + 1, 1, none⟩ = some (.slice none 0 0) := by
        rw [hWn, cell_setCell_other _ _ _ _ _ (.inl hne), cell_setCell_other _ _ _ _ _ (.inl hne)]; exact q3
      have j10 : Wn.frozen? ⟨w.heap.size + 1 + 1, 0, none⟩ = false := by rw [hWn]; simp [h10]
      have j11 : Wn.frozen? ⟨w.heap.size + 1 + 1, 1, none⟩ = false := by rw [hWn]; simp [h11]
      have WB := Lib.hid (show Below w.heap.size w Wn ∧ (Sl Wn base 3 (.slice a2 (withR x xs).length c2) (withR x xs).length (rjc (withR x xs)) ∧ ∀ k, (Value.slice a2 (withR x xs).length c2).ownBlock = some k → k ≠ w.heap.size + 1 + 1) ∧ (Sl Wn base 2 (.slice ua' B.length uc') B.length (ftc B) ∧ ∀ k, (Value.slice ua' B.length uc').ownBlock = some k → k ≠ w.heap.size + 1 + 1) from by
        have z1 := MS.out
        have z2 := B2.out.size
        refine ⟨?_, ⟨?_, fun k hk => ?_⟩, ?_, fun k hk => (SU.out.2 k hk).2⟩
        · rw [hWn]
          exact ((MB.out.trans (B2.out.mono (by omega))).setCell (p := ⟨w.heap.size, 0, none⟩) (Nat.le_refl _) _).setCell (p := ⟨w.heap.size, 1, none⟩) (Nat.le_refl _) _
        · rw [hWn]
          refine Sl.same (S2.out.mono (by have := HBZ.out; omega)) (by simp [World.setCell]) fun k hk => ?_
          have := (S2.out.lt k hk).1
          rw [Below.heap_setCell _ _ _ _ (by simp only; omega), Below.heap_setCell _ _ _ _ (by simp only; omega)]
        · have := (S2.out.lt k hk).1
          omega
        · rw [hWn]
          refine Sl.same (SUW.out.on B2.out) (by simp [World.setCell]) fun k hk => ?_
          have := (SU.out.2 k hk).1
          rw [Below.heap_setCell _ _ _ _ (by simp only; omega), Below.heap_setCell _ _ _ _ (by simp only; omega)])
      rw [← hWn]
      clear q0 q1 q2 q3 h00 h01 h10 h11 hWn
      cases wk
      · go_wp2_with fail
        obtain ⟨W6, hW6⟩ : ∃ W6, W6 = (Wn.setCell ⟨w.heap.size + 1 + 1, 0, none⟩ (.slice a2 (withR x xs).length c2)).setCell ⟨w.heap.size + 1 + 1, 1, none⟩ (.slice ua' B.length uc') := ⟨_, rfl⟩
        have c0 : W6.cell? ⟨w.heap.size + 1 + 1, 0, none⟩ = some (.slice a2 (withR x xs).length c2) := by
          rw [hW6, cell_setCell_other _ _ _ _ _ (.inr (by simp))]
          exact cell_setCell_same _ _ _ _ (by rw [r0]; rfl)
        have c1 : W6.cell? ⟨w.heap.size + 1 + 1, 1, none⟩ = some (.slice ua' B.length uc') := by
          rw [hW6]
          exact cell_setCell_same _ _ _ _ (by rw [cell_setCell_other _ _ _ _ _ (.inr (by simp)), r1]; rfl)
        have hb6 : Below w.heap.size w W6 := by
          rw [hW6]
          exact (WB.out.1.setCell (p := ⟨w.heap.size + 1 + 1, 0, none⟩) (by simp only; omega) _).setCell (p := ⟨w.heap.size + 1 + 1, 1, none⟩) (by simp only; omega) _
        have hs6 : Sl W6 base 3 (.slice a2 (withR x xs).length c2) (withR x xs).length (rjc (withR x xs)) := by
          rw [hW6]
          refine Sl.same WB.out.2.1.1 (by simp [World.setCell]) fun k hk => ?_
          have h2 := WB.out.2.1.2 k hk
          rw [Below.heap_setCell _ _ _ _ (by simp only; omega), Below.heap_setCell _ _ _ _ (by simp only; omega)]
        have hu6 : Sl W6 base 2 (.slice ua' B.length uc') B.length (ftc B) := by
          rw [hW6]
          refine Sl.same WB.out.2.2.1 (by simp [World.setCell]) fun k hk => ?_
          have h2 := WB.out.2.2.2 k hk
          rw [Below.heap_setCell _ _ _ _ (by simp only; omega), Below.heap_setCell _ _ _ _ (by simp only; omega)]
        rw [← hW6]
        refine bodyPost_ret (by simp [results, Try.results39, go_sem, c0, c1]; rfl) rfl ?_
        exact ⟨_, _, rfl, hs6, hu6, OV.out, OU.out, hb6⟩
      · go_wp2_with fail
        obtain ⟨W6, hW6⟩ : ∃ W6, W6 = (Wn.setCell ⟨w.heap.size + 1 + 1, 0, none⟩ (.slice a2 (withR x xs).length c2)).setCell ⟨w.heap.size + 1 + 1, 1, none⟩ (.slice ua' B.length uc') := ⟨_, rfl⟩
        have c0 : W6.cell? ⟨w.heap.size + 1 + 1, 0, none⟩ = some (.slice a2 (withR x xs).length c2) := by
          rw [hW6, cell_setCell_other _ _ _ _ _ (.inr (by simp))]
          exact cell_setCell_same _ _ _ _ (by rw [r0]; rfl)
        have c1 : W6.cell? ⟨w.heap.size + 1 + 1, 1, none⟩ = some (.slice ua' B.length uc') := by
          rw [hW6]
          exact cell_setCell_same _ _ _ _ (by rw [cell_setCell_other _ _ _ _ _ (.inr (by simp)), r1]; rfl)
        have hb6 : Below w.heap.size w W6 := by
          rw [hW6]
          exact (WB.out.1.setCell (p := ⟨w.heap.size + 1 + 1, 0, none⟩) (by simp only; omega) _).setCell (p := ⟨w.heap.size + 1 + 1, 1, none⟩) (by simp only; omega) _
        have hs6 : Sl W6 base 3 (.slice a2 (withR x xs).length c2) (withR x xs).length (rjc (withR x xs)) := by
          rw [hW6]
          refine Sl.same WB.out.2.1.1 (by simp [World.setCell]) fun k hk => ?_
          have h2 := WB.out.2.1.2 k hk
          rw [Below.heap_setCell _ _ _ _ (by simp only; omega), Below.heap_setCell _ _ _ _ (by simp only; omega)]
        have hu6 : Sl W6 base 2 (.slice ua' B.length uc') B.length (ftc B) := by
          rw [hW6]
          refine Sl.same WB.out.2.2.1 (by simp [World.setCell]) fun k hk => ?_
          have h2 := WB.out.2.2.2 k hk
          rw [Below.heap_setCell _ _ _ _ (by simp only; omega), Below.heap_setCell _ _ _ _ (by simp only; omega)]
        rw [← hW6]
        refine bodyPost_ret (by simp [results, Try.results39, go_sem, c0, c1]; rfl) rfl ?_
        exact ⟨_, _, rfl, hs6, hu6, OV.out, OU.out, hb6⟩
end Go.Proofs.Ytnjoojffefhgpaa

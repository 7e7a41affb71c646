/- Layer 25: the first known answers, walked. The statement LedgerWithin, walked. -/
import Derived.Test.YtfckgcckpfklaaaGreatDoorMDGE
import Derived.Test.YtfckgcckpfklaaaGreatDoorMA7
namespace Go.Proofs.YtfckgcckpfklaaaGreatDoor
open Go.RowKit Go.Lib Hp
set_option linter.unusedVariables false

def zP : List On := [⟨0, 5, 0⟩, ⟨0, 6, 0⟩, ⟨0, 7, 0⟩]
def zA5 : List On := [⟨0, 5, 0⟩, ⟨0, 7, 0⟩]
def zB5 : List On := [⟨0, 6, 0⟩]
def zC5 : List On := [⟨0, 5, 0⟩, ⟨0, 6, 0⟩]
def sure5 : List Rw := addF [] [(labs 0, ⟨5, 0⟩)]
def may5 : List Rw := addF sure5 [(labs 0, ⟨6, 0⟩), (labs 0, ⟨7, 0⟩)]
theorem aw1 : WithinP sure5 (tableZ zA5) := by unfold WithinP; decide
theorem aw2 : WithinP (tableZ zA5) may5 := by unfold WithinP; decide
theorem aw3 : ¬ WithinP sure5 (tableZ zB5) := by unfold WithinP; decide
theorem aw4 : WithinP sure5 (tableZ zC5) := by unfold WithinP; decide
theorem aw5 : WithinP (tableZ zC5) may5 := by unfold WithinP; decide
theorem aw6 (a b : Value) : ¬ FirstP (tableZ zA5) [⟨a, labs 0, ⟨6, 0⟩⟩, ⟨b, labs 0, ⟨7, 0⟩⟩] := fun h => by
  have h1 := h 0 1 _ _ (by decide) rfl rfl rfl (show lookT (tableZ zA5) (labs 0) 7 = some ⟨7, 0⟩ by decide)
  have h2 : lookT (tableZ zA5) (labs 0) 6 = some ⟨6, 0⟩ := h1
  exact absurd h2 (by decide)
theorem aw7 (a b : Value) : FirstP (tableZ zC5) [⟨a, labs 0, ⟨6, 0⟩⟩, ⟨b, labs 0, ⟨7, 0⟩⟩] := fun i j p q hij hp hq e hin => by
  have hj : j < 2 := (List.getElem?_eq_some_iff.1 hq).1
  obtain rfl : j = 1 := by omega
  cases hq
  have h2 : lookT (tableZ zC5) (labs 0) 7 = some ⟨7, 0⟩ := hin
  exact absurd h2 (by decide)
theorem pts_two {ps : List Pq} (h : pts ps = [(labs 0, ⟨6, 0⟩), (labs 0, ⟨7, 0⟩)]) : ∃ a b, ps = [⟨a, labs 0, ⟨6, 0⟩⟩, ⟨b, labs 0, ⟨7, 0⟩⟩] := by
  match ps, h with
  | [⟨a, l, s⟩, ⟨b, l', s'⟩], h =>
    simp only [pts, List.map_cons, List.map_nil, List.cons.injEq, Prod.mk.injEq, and_true] at h
    obtain ⟨⟨rfl, rfl⟩, rfl, rfl⟩ := h
    exact ⟨a, b, rfl⟩
  | [], h => simp [pts] at h
  | [q], h => simp [pts] at h
  | q :: q' :: q'' :: l, h => simp [pts] at h
theorem pts_three {ps : List Pq} (h : pts ps = zP.map onP) : ∃ a b c, ps = [⟨a, labs 0, ⟨5, 0⟩⟩, ⟨b, labs 0, ⟨6, 0⟩⟩, ⟨c, labs 0, ⟨7, 0⟩⟩] := by
  have e : zP.map onP = [(labs 0, ⟨5, 0⟩), (labs 0, ⟨6, 0⟩), (labs 0, ⟨7, 0⟩)] := by decide
  rw [e] at h
  match ps, h with
  | [⟨a, l, s⟩, ⟨b, l', s'⟩, ⟨c, l'', s''⟩], h =>
    simp only [pts, List.map_cons, List.map_nil, List.cons.injEq, Prod.mk.injEq, and_true] at h
    obtain ⟨⟨rfl, rfl⟩, ⟨rfl, rfl⟩, rfl, rfl⟩ := h
    exact ⟨a, b, c, rfl⟩
  | [], h => simp [pts] at h
  | [q], h => simp [pts] at h
  | [q, q'], h => simp [pts] at h
  | q :: q' :: q'' :: q3 :: l, h => simp [pts] at h
theorem short0 (n : Int) : Short (labs n) := by
  unfold labs
  intro x hx
  have key : ∀ k, ∀ x ∈ lab5 k, x.n.length ≤ 1000 ∧ x.v.length ≤ 1000 := fun k => by
    unfold lab5
    split <;> decide
  exact key _ x hx
theorem run_tail25 (g off cap : Nat) (hn : 3 ≤ cap) (W : World) : (Instr.slice 25 (.slice (some ⟨g, off, none⟩) 3 cap) (some (.int .i64 1)) none none).run Tryz.prog W = .ok (.slice (some ⟨g, off + 3, none⟩) 2 (cap - 1)) W := by
  have hu := run_underlying Tryz.underlying25
  have hz := Tryz.sizeOf38
  have h4 : ¬ cap = 1 := by omega
  simp [Instr.slice, Instr.sliceBounds, go_sem, hu, hz, Addr.add, h4]
  all_goals omega
theorem PtsR.lit1 {w : World} {a : Value} {ls : List Pr} {s : Sp} (h : Rd w 2 a ls.length (prc ls)) (hl : ls.length ≤ 1000) : PtsR (w.alloc (.cells #[a, .int .i64 s.t, .int .u64 s.v] 38)) (.slice (some ⟨w.heap.size, 0, none⟩) 1 1) [⟨a, ls, s⟩] := by
  have hb := heap_alloc_new w (.cells #[a, .int .i64 s.t, .int .u64 s.v] 38)
  refine ⟨⟨rfl, _, 1, w.heap.size, 0, rfl, fun _ => ⟨rfl, by simp⟩, fun j hj => ?_⟩, fun p hp => ?_⟩
  · rw [Nat.zero_add]
    refine (Lib.cell_of_heap hb j).trans ?_
    simp [pqc]
  · rw [List.mem_singleton] at hp
    subst hp
    exact ⟨h.on ((Below.refl _ _).alloc (Nat.le_refl _) _), hl⟩
theorem PtsF.tail {w : World} {B g off cap cap' : Nat} {q0 q1 q2 : Pq} (h : PtsF w B (.slice (some ⟨g, off, none⟩) 3 cap) [q0, q1, q2]) : PtsF w B (.slice (some ⟨g, off + 3, none⟩) 2 cap') [q1, q2] := by
  obtain ⟨⟨⟨_, a, c, g', off', e, hg, hc⟩, h2⟩, h3, h4⟩ := h
  obtain ⟨r1, _, _⟩ := Value.slice.inj e
  subst r1
  obtain ⟨e1, hgl⟩ := hg (by simp)
  cases e1
  refine ⟨⟨⟨rfl, _, cap', g, off + 3, rfl, fun _ => ⟨rfl, hgl⟩, fun j hj => ?_⟩, fun p hp => h2 p (List.mem_cons_of_mem _ hp)⟩, fun k hk => h3 k hk, fun p hp => h4 p (List.mem_cons_of_mem _ hp)⟩
  rw [Nat.add_assoc]
  have hj6 : j < 2 * 3 := hj
  refine (hc (3 + j) (by show 3 + j < 3 * 3; omega)).trans ?_
  show ([q0.a, Value.int .i64 q0.s.t, .int .u64 q0.s.v] ++ pqc [q1, q2])[3 + j]? = _
  rw [List.getElem?_append_right (by simp)]
  congr 1
  simp only [List.length_cons, List.length_nil]
  omega

set_option maxHeartbeats 8000000 in
set_option maxRecDepth 100000 in
theorem awake25_any (w : World) : Calls Tryz.prog 6 #[] w fun e w' => e = .returned (.bool true) ∧ Below w.heap.size w w' := by
  have PO := Lib.hid (fun W => points_any25 _ 3 3 zP _ (OnR.lit W zP #[.int .u8 0, .int .i64 5, .int .u64 0, .int .u8 0, .int .i64 6, .int .u64 0, .int .u8 0, .int .i64 7, .int .u64 0] 57 rfl (by decide) (by decide)))
  have TA := Lib.hid (fun W => table14_f _ 2 2 zA5 _ (OnR.lit W zA5 #[.int .u8 0, .int .i64 5, .int .u64 0, .int .u8 0, .int .i64 7, .int .u64 0] 57 rfl (by decide) (by decide)))
  have TB := Lib.hid (fun W => table14_f _ 1 1 zB5 _ (OnR.lit W zB5 #[.int .u8 0, .int .i64 6, .int .u64 0] 57 rfl (by decide) (by decide)))
  have TC := Lib.hid (fun W => table14_f _ 2 2 zC5 _ (OnR.lit W zC5 #[.int .u8 0, .int .i64 5, .int .u64 0, .int .u8 0, .int .i64 6, .int .u64 0] 57 rfl (by decide) (by decide)))
  have BA := Lib.hid (fun (W : World) (o : Obj) => (Below.refl W.heap.size W).alloc (Nat.le_refl _) o)
  obtain ⟨V0, hV0⟩ : ∃ V0, V0 = w.alloc (.cells #[.slice none 0 0, .slice none 0 0] 27) := ⟨_, rfl⟩
  have hb0 : V0.heap[w.heap.size]? = some (.cells #[.slice none 0 0, .slice none 0 0] 27) := by rw [hV0]; exact heap_alloc_new w _
  have bV0 : Below w.heap.size w V0 := by rw [hV0]; exact (Below.refl _ _).alloc (Nat.le_refl _) _
  have zV0 : w.heap.size < V0.heap.size := (Array.getElem?_eq_some_iff.1 hb0).1
  have HB0 := Lib.hid hb0; have BV0 := Lib.hid bV0
  clear hb0 bV0
  go_enter Tryz.func6, Tryz.ntmps6
  go_upto_region 2 with fail
  rw [← hV0]
  clear hV0
  obtain ⟨b, hb⟩ : ∃ b, b = w.heap.size := ⟨_, rfl⟩
  have HBW := Lib.hid hb
  rw [← hb]
  rw [← hb] at HB0 zV0
  clear hb
  go_wp2_with fail
  refine (PO.out V0).mono ?_
  rintro e w1 ⟨pv, tv, qs, rfl, opn, hqs, b1⟩
  obtain ⟨x0, x1, x2, rfl⟩ := pts_three hqs
  have hVs : (V0.alloc (.cells #[.int .u8 0, .int .i64 5, .int .u64 0, .int .u8 0, .int .i64 6, .int .u64 0, .int .u8 0, .int .i64 7, .int .u64 0] 57)).heap.size = V0.heap.size + 1 := by simp
  have B01 : Below V0.heap.size V0 w1 := (BA.out V0 _).trans (b1.mono (by omega))
  have hb1 : w1.heap[b]? = some (.cells #[.slice none 0 0, .slice none 0 0] 27) := (B01.block b zV0).trans HB0.out
  have PF1 := (opn.ptsF).mono (B' := b + 1) (by omega)
  obtain ⟨g, off, pc, rfl, hgl, hpc, p0, p1, p2⟩ : ∃ g off pc, pv = .slice (some ⟨g, off, none⟩) 3 pc ∧ g < w1.heap.size ∧ 3 ≤ pc ∧ w1.cell? ⟨g, off, none⟩ = some x0 ∧ w1.cell? ⟨g, off + 1, none⟩ = some (.int .i64 5) ∧ w1.cell? ⟨g, off + 2, none⟩ = some (.int .u64 0) := by
    rcases opn.sl.2 with ⟨_, h1⟩ | ⟨g, off, cap, he, _, hg, hcap, _, _, hc⟩
    · cases h1
    · exact ⟨g, off, cap, he, hg, hcap, hc 0 (show (0 : Nat) < 9 by decide), hc 1 (show (1 : Nat) < 9 by decide), hc 2 (show (2 : Nat) < 9 by decide)⟩
  have r0 := (opn.ok _ (List.mem_cons_self ..)).1
  obtain ⟨a0, k0, rfl⟩ : ∃ a c, x0 = .slice a (labs 0).length c := r0.slice
  obtain ⟨n0, hn0⟩ : ∃ n, n = (labs 0).length := ⟨_, rfl⟩
  have D1b : Below w1.heap.size w1 (w1.alloc (.cells #[.slice a0 (labs 0).length k0, .int .i64 5, .int .u64 0] 38)) := (Below.refl _ _).alloc (Nat.le_refl _) _
  have DN := Lib.hid (done_any b 100 _ [⟨.slice a0 (labs 0).length k0, labs 0, ⟨5, 0⟩⟩] _ ((D1b.block b (Array.getElem?_eq_some_iff.1 hb1).1).trans hb1) (PtsR.lit1 (s := ⟨5, 0⟩) r0 (by have := labs_len 0; omega)) (show (1 : Nat) ≤ 100000 by decide) (show (1 : Nat) ≤ 100 by decide))
  have P1 := Lib.hid (PF1.on D1b)
  have BD1 := Lib.hid (BV0.out.trans ((B01.trans (D1b.mono B01.size)).mono BV0.out.size))
  rw [← hn0] at p0 DN P1 BD1
  have HN0 := Lib.hid hn0
  have tl := run_tail25 g off pc hpc
  clear opn b1 hqs B01 hb1 PF1 r0 hn0 D1b hVs
  go_wp2_with fail
  refine DN.out.mono ?_
  rintro e w2 ⟨rfl, L2, ho2, T2⟩
  have P2 := Lib.hid ((P1.out.turn T2 (fun k hk => by omega)).tail (cap' := pc - 1))
  have TR := Lib.hid (tried_any b (b + 1) 100 sure5 _ _ w2 L2 ho2 P2.out (show (2 : Nat) ≤ 100000 by decide))
  have hbw : w.heap.size ≤ b := by have := HBW.out; omega
  have B2 := Lib.hid (BD1.out.trans (T2.below BD1.out.size (fun k hk => by omega)))
  clear L2 ho2 T2 P1 DN p0 p1 p2
  go_wp2_with fail
  refine TR.out.mono ?_
  rintro e w3 ⟨qs3, rfl, L3, hq3, T3⟩
  obtain ⟨y1, y2, rfl⟩ := pts_two (ps := qs3) hq3
  have L3' := Lib.hid L3
  have B3 := Lib.hid (B2.out.trans (T3.below B2.out.size (fun k hk => by omega)))
  clear L3 hq3 T3 TR P2 tl
  go_wp2_with fail
  refine (TA.out w3).mono ?_
  rintro e w4 ⟨av, atv, rfl, fa, -, b4⟩
  have bb4 := (BA.out w3 (.cells #[.int .u8 0, .int .i64 5, .int .u64 0, .int .u8 0, .int .i64 7, .int .u64 0] 57)).trans (b4.mono (by simp))
  have L4 := Lib.hid (L3'.out.on bb4); have B4 := Lib.hid (B3.out.trans (bb4.mono B3.out.size)); have FA := Lib.hid fa.c.r
  clear fa b4 bb4 L3' B3
  go_wp2_with fail
  refine (TB.out w4).mono ?_
  rintro e w5 ⟨bv, btv, rfl, fb, -, b5⟩
  have bb5 := (BA.out w4 (.cells #[.int .u8 0, .int .i64 6, .int .u64 0] 57)).trans (b5.mono (by simp))
  have L5 := Lib.hid (L4.out.on bb5); have B5 := Lib.hid (B4.out.trans (bb5.mono B4.out.size)); have FA5 := Lib.hid (FA.out.on bb5); have FB := Lib.hid fb.c.r
  clear fb b5 bb5 L4 B4 FA
  go_wp2_with fail
  refine (TC.out w5).mono ?_
  rintro e w6 ⟨cv, ctv, rfl, fc, -, b6⟩
  have bb6 := (BA.out w5 (.cells #[.int .u8 0, .int .i64 5, .int .u64 0, .int .u8 0, .int .i64 6, .int .u64 0] 57)).trans (b6.mono (by simp))
  have L6 := Lib.hid (L5.out.on bb6); have B6 := Lib.hid (B5.out.trans (bb6.mono B5.out.size)); have FA6 := Lib.hid (FA5.out.on bb6); have FB6 := Lib.hid (FB.out.on bb6); have FC := Lib.hid fc.c.r
  clear fc b6 bb6 L5 B5 FA5 FB
  have SH : ∀ p ∈ [(⟨y1, labs 0, ⟨6, 0⟩⟩ : Pq), ⟨y2, labs 0, ⟨7, 0⟩⟩], Short p.ls := fun p hp => by
    simp only [List.mem_cons, List.not_mem_nil, or_false] at hp
    rcases hp with rfl | rfl <;> exact short0 0
  have SA := Lib.hid (fun W (bb : Below w6.heap.size w6 W) => settle_any b (b + 1) 100 40 sure5 (tableZ zA5) _ av W (L6.out.on bb) (FA6.out.on bb) (tableZ_up zA5).1 SH (show sure5.length + 2 ≤ 100000 by decide) (show (100 : Nat) + 2 ≤ 10000 by decide) (by decide))
  have SB := Lib.hid (fun W (bb : Below w6.heap.size w6 W) => settle_any b (b + 1) 100 40 sure5 (tableZ zB5) _ bv W (L6.out.on bb) (FB6.out.on bb) (tableZ_up zB5).1 SH (show sure5.length + 2 ≤ 100000 by decide) (show (100 : Nat) + 2 ≤ 10000 by decide) (by decide))
  have SC := Lib.hid (fun W (bb : Below w6.heap.size w6 W) => settle_any b (b + 1) 100 40 sure5 (tableZ zC5) _ cv W (L6.out.on bb) (FC.out.on bb) (tableZ_up zC5).1 SH (show sure5.length + 2 ≤ 100000 by decide) (show (100 : Nat) + 2 ≤ 10000 by decide) (by decide))
  have OP := Lib.hid (open_any b (b + 1) 100 sure5 _ w6 L6.out)
  have OZ := Lib.hid (fun W now (h : Led W b (b + 1) 40 now []) => open_any b (b + 1) 40 now [] W h)
  obtain ⟨av1, av2, av3, rfl⟩ : ∃ a n c, av = Value.slice a n c := by obtain ⟨a, c, e⟩ := FA6.out.form; exact ⟨_, _, _, e⟩
  obtain ⟨bv1, bv2, bv3, rfl⟩ : ∃ a n c, bv = Value.slice a n c := by obtain ⟨a, c, e⟩ := FB6.out.form; exact ⟨_, _, _, e⟩
  obtain ⟨cv1, cv2, cv3, rfl⟩ : ∃ a n c, cv = Value.slice a n c := by obtain ⟨a, c, e⟩ := FC.out.form; exact ⟨_, _, _, e⟩
  clear L6 FA6 FB6 FC SH TA TB TC BA PO HB0
  go_wp2_with fail
  refine OP.out.mono ?_
  rintro e w7 ⟨rfl, rfl⟩
  go_wp2_with fail
  refine (SA.out _ (Below.refl _ _)).mono ?_
  rintro e w8 ⟨⟨c, rfl, -, -, hc⟩, -, hB, -⟩
  obtain rfl := hc aw1 aw2 (aw6 _ _)
  have B8 := Lib.hid (hB (fun h => aw6 _ _ h.2.2))
  clear hc hB SA OP
  go_wp2_with fail
  refine (SB.out _ B8.out).mono ?_
  rintro e w9 ⟨⟨c, rfl, -, hc, -⟩, -, hB, -⟩
  obtain rfl := hc aw3
  have B9 := Lib.hid (B8.out.trans ((hB (fun h => aw3 h.1)).mono B8.out.size))
  clear hc hB SB B8
  go_wp2_with fail
  refine (SC.out _ B9.out).mono ?_
  rintro e w10 ⟨⟨c, rfl, hc, -, -⟩, hL, -, hT⟩
  have hok : SetP sure5 [(⟨y1, labs 0, ⟨6, 0⟩⟩ : Pq), ⟨y2, labs 0, ⟨7, 0⟩⟩] (tableZ zC5) := ⟨aw4, aw5, aw7 _ _⟩
  obtain rfl := hc.2 hok
  have L10 := Lib.hid (hL hok).1
  have B10 := Lib.hid ((B6.out.trans (B9.out.mono B6.out.size)).trans (hT.below (Nat.le_trans B6.out.size B9.out.size) (fun k hk => by omega)))
  clear hc hL hT hok SC B9
  go_wp2_with fail
  refine (OZ.out _ _ L10.out).mono ?_
  rintro e w11 ⟨rfl, rfl⟩
  go_wp2
  go_ret
  exact ⟨rfl, B10.out⟩
end Go.Proofs.YtfckgcckpfklaaaGreatDoor

namespace Go.Proofs.YtfckgcckpfklaaaGreatDoor
open Go.RowKit Go.Lib Hp
set_option linter.unusedVariables false

theorem look_mem {l : List Sp} {a : Int} {s : Sp} (h : look l a = some s) : s ∈ l ∧ s.t = a := by
  induction l with
  | nil => cases h
  | cons x l ih =>
    unfold look at h
    split at h
    · rename_i e; cases h; exact ⟨by simp, e⟩
    · obtain ⟨h1, h2⟩ := ih h
      exact ⟨by simp [h1], h2⟩
theorem look_of {l : List Sp} (hu : Up l) {s : Sp} (h : s ∈ l) : look l s.t = some s := by
  induction l with
  | nil => cases h
  | cons x l ih =>
    obtain ⟨h1, h2⟩ := List.pairwise_cons.1 hu
    unfold look
    rcases List.mem_cons.1 h with rfl | h
    · rw [if_pos rfl]
    · rw [if_neg (by have := h1 s h; omega)]
      exact ih h2 h
theorem lookT_mem {T : List Rw} {ls : List Pr} {a : Int} {s : Sp} (h : lookT T ls a = some s) : ∃ r ∈ T, r.ls = ls ∧ s ∈ r.ss ∧ s.t = a := by
  induction T with
  | nil => cases h
  | cons r T ih =>
    rw [lookT] at h
    by_cases e : r.ls = ls
    · rw [if_pos e] at h
      cases hl : look r.ss a with
      | none =>
        rw [hl] at h
        obtain ⟨r', h1, h2⟩ := ih (by simpa using h)
        exact ⟨r', by simp [h1], h2⟩
      | some y =>
        rw [hl] at h
        have : y = s := by simpa using h
        subst this
        exact ⟨r, by simp, e, look_mem hl⟩
    · rw [if_neg e] at h
      obtain ⟨r', h1, h2⟩ := ih (by simpa using h)
      exact ⟨r', by simp [h1], h2⟩
theorem lookT_of {T : List Rw} (hu : UpT T) {r : Rw} (hr : r ∈ T) {s : Sp} (hs : s ∈ r.ss) : lookT T r.ls s.t = some s := by
  induction T with
  | nil => cases hr
  | cons x T ih =>
    obtain ⟨h1, h2⟩ := List.pairwise_cons.1 hu.1
    have hul : UpT T := ⟨h2, fun r hr => hu.2 r (by simp [hr])⟩
    rw [lookT]
    rcases List.mem_cons.1 hr with rfl | hr
    · rw [if_pos rfl, look_of (hu.2 r (by simp)) hs]; rfl
    · rw [if_neg (cmp_ne (by have := h1 r hr; omega))]
      simpa using ih hul hr
theorem within_self {T : List Rw} (hu : UpT T) : WithinP T T := fun r hr s hs => lookT_of hu hr hs
theorem within_look {x y : List Rw} (h : WithinP x y) {ls : List Pr} {a : Int} {s : Sp} (hs : lookT x ls a = some s) : lookT y ls a = some s := by
  obtain ⟨r, h1, rfl, h3, rfl⟩ := lookT_mem hs
  exact h r h1 s h3
theorem within_of {x y : List Rw} (hu : UpT x) (h : ∀ ls a s, lookT x ls a = some s → lookT y ls a = some s) : WithinP x y := fun r hr s hs => h _ _ _ (lookT_of hu hr hs)
theorem within_trans {x y z : List Rw} (hu : UpT x) (h : WithinP x y) (k : WithinP y z) : WithinP x z := within_of hu fun _ _ _ hs => within_look k (within_look h hs)
theorem within_anti {x y : List Rw} (hx : UpT x) (hy : UpT y) (nx : ∀ r ∈ x, r.ss ≠ []) (ny : ∀ r ∈ y, r.ss ≠ []) (h : WithinP x y) (k : WithinP y x) : x = y := by
  refine upT_one hx hy nx ny fun ls t => ?_
  cases e : lookT x ls t with
  | some s => exact (within_look h e).symm
  | none =>
    cases e2 : lookT y ls t with
    | none => rfl
    | some s => rw [within_look k e2] at e; cases e

set_option maxHeartbeats 8000000 in
set_option maxRecDepth 100000 in
theorem lwithin_any (a0 : Option Addr) (len0 cap0 : Nat) (a1 : Option Addr) (len1 cap1 : Nat) (a2 : Option Addr) (len2 cap2 : Nat) (z0 z1 z2 : List On) (w : World) (h0 : OnR w a0 len0 z0) (h1 : OnR w a1 len1 z1) (h2 : OnR w a2 len2 z2) :
    Calls Tryz.prog 4 #[.slice a0 len0 cap0, .slice a1 len1 cap1, .slice a2 len2 cap2] w fun e w' => e = .returned (.bool true) ∧ Below w.heap.size w w' := by
  have T0 := Lib.hid (table14_any a0 len0 cap0 z0 w h0)
  have T1 := Lib.hid (fun W (bb : Below w.heap.size w W) => table14_any a1 len1 cap1 z1 W (h1.on bb))
  have T2 := Lib.hid (fun W (bb : Below w.heap.size w W) => table14_any a2 len2 cap2 z2 W (h2.on bb))
  have AW := Lib.hid (fun W => awake25_any W)
  have hl0 : (z0.map onP).length ≤ 40 := by rw [List.length_map]; have := h0.hl; omega
  have hl1 : (z1.map onP).length ≤ 40 := by rw [List.length_map]; have := h1.hl; omega
  obtain ⟨X, hX⟩ : ∃ X, X = tableZ z0 := ⟨_, rfl⟩
  obtain ⟨Y, hY⟩ : ∃ Y, Y = tableZ z1 := ⟨_, rfl⟩
  obtain ⟨Z, hZ⟩ : ∃ Z, Z = tableZ z2 := ⟨_, rfl⟩
  obtain ⟨ux, nx⟩ : UpT X ∧ ∀ r ∈ X, r.ss ≠ [] := by rw [hX]; exact tableZ_up z0
  obtain ⟨uy, ny⟩ : UpT Y ∧ ∀ r ∈ Y, r.ss ≠ [] := by rw [hY]; exact tableZ_up z1
  have uz : UpT Z := by rw [hZ]; exact (tableZ_up z2).1
  have hXl : X.length ≤ 40 := by rw [hX, tableZ_P]; have := (addF_len0 (z0.map onP)).1; omega
  have hXP : X = addF [] (z0.map onP) := by rw [hX]; exact tableZ_P z0
  have hYP : Y = addF [] (z1.map onP) := by rw [hY]; exact tableZ_P z1
  rw [← hX] at T0
  rw [← hY] at T1
  rw [← hZ] at T2
  have BA := Lib.hid (fun (W : World) (o : Obj) => (Below.refl W.heap.size W).alloc (Nat.le_refl _) o)
  obtain ⟨XY, hXY⟩ : ∃ XY, XY = addF [] (z0.map onP ++ z1.map onP) := ⟨_, rfl⟩
  obtain ⟨uxy, -, lxy⟩ := addF_nil (z0.map onP ++ z1.map onP)
  rw [← hXY] at uxy lxy
  have wxy : WithinP X XY := within_of ux fun ls a s hs => by
    rw [hXP, (addF_nil (z0.map onP)).2.2] at hs
    rw [lxy, lookP_append, hs]
    rfl
  have TT := Lib.hid (fun (W : World) (u v : Value) (hu : TabC W 40 u X) (hv : TabC W 40 v Y) => show Calls Tryz.prog 11 #[.slice (some ⟨W.heap.size, 0, none⟩) 2 2] (W.alloc (.cells #[u, v] 24)) (fun e w' => ∃ v', e = .returned v' ∧ TabC w' 1000 v' XY ∧ Below W.heap.size W w') from by
    refine (tables_P _ [z0.map onP, z1.map onP] _ (TsR.lit W [u, v] [z0.map onP, z1.map onP] 24 rfl (fun p x ps h1 h2 => by
      match p, h1, h2 with
      | 0, h1, h2 =>
        obtain rfl := Option.some.inj h1
        obtain rfl := Option.some.inj h2
        rw [← hXP]; exact hu.mono (by omega)
      | 1, h1, h2 =>
        obtain rfl := Option.some.inj h1
        obtain rfl := Option.some.inj h2
        rw [← hYP]; exact hv.mono (by omega)
      | p + 2, h1, _ => simp at h1)) (by simp) (by simp only [List.flatten_cons, List.flatten_nil, List.append_nil, List.length_append]; omega)).mono ?_
    rintro e w' ⟨v', rfl, h1, h2⟩
    refine ⟨v', rfl, ?_, (BA.out W _).trans (h2.mono (BA.out W (.cells #[u, v] 24)).size)⟩
    have e1 : [z0.map onP, z1.map onP].flatten = z0.map onP ++ z1.map onP := by simp
    rw [e1, ← hXY] at h1
    exact h1)
  have WI := Lib.hid (fun (sv gv : Value) (s g : List Rw) (K0 K1 : Nat) W (h : TabR W K0 sv s) (k : TabR W K1 gv g) (u : UpT g) (k0 : K0 ≤ 100000) (k1 : K1 ≤ 100000) => within_any sv gv s g K0 K1 W h k u k0 k1)
  have TD := Lib.hid (fun (W : World) (u : Value) (l : List Rw) (hu : TabR W 40 u l) (hl : l.length ≤ 1000) => told14_any u l 40 W hu hl (by omega))
  have SM := Lib.hid (fun (W : World) (u v : Value) (l : List Rw) (hu : TabR W 40 u l) (hv : TabR W 40 v l) (hl : l.length ≤ 1000) => same14_any u v l 40 W hu hv hl (by omega))
  have NIL := Lib.hid (fun W => show TabR W 0 (.slice none 0 0) [] from (TabC.empty W 0).r)
  have SELF := Lib.hid (within_self ux); have TRA := Lib.hid (fun (h : WithinP X Y) (k : WithinP Y Z) => within_trans ux h k); have ANT := Lib.hid (fun (h : WithinP X Y) (k : WithinP Y X) => within_anti ux uy nx ny h k)
  have WXY := Lib.hid wxy; have UX := Lib.hid ux; have UY := Lib.hid uy; have UZ := Lib.hid uz; have UXY := Lib.hid uxy
  clear h0 h1 h2 hl0 hl1 hX hY hZ ux nx uy ny uz hXP hYP hXY uxy lxy wxy
  go_enter Tryz.func4, Tryz.ntmps4
  go_wp2_with fail
  refine T0.out.mono ?_
  rintro e w1 ⟨xv, xt, rfl, cx, tx, b1⟩
  obtain ⟨xa, xc, rfl⟩ := cx.form
  have CX1 := Lib.hid cx; have B1 := Lib.hid b1
  clear cx tx b1 T0
  go_wp2_with fail
  refine (T1.out _ B1.out).mono ?_
  rintro e w2 ⟨yv, yt, rfl, cy, ty, b2⟩
  obtain ⟨ya, yc, rfl⟩ := cy.form
  have CX2 := Lib.hid (CX1.out.on b2); have CY2 := Lib.hid cy; have B2 := Lib.hid (B1.out.trans (b2.mono B1.out.size))
  clear cy ty b2 T1 B1 CX1
  go_wp2_with fail
  refine (T2.out _ B2.out).mono ?_
  rintro e w3 ⟨zv, zt, rfl, cz, tz, b3⟩
  obtain ⟨za, zc, rfl⟩ := cz.form
  have CX3 := Lib.hid (CX2.out.on b3); have CY3 := Lib.hid (CY2.out.on b3); have CZ3 := Lib.hid cz; have B3 := Lib.hid (B2.out.trans (b3.mono B2.out.size))
  clear cz tz b3 T2 B2 CX2 CY2
  -- from w3 on all is read alone
  have AT := Lib.hid (fun W (bb : Below w3.heap.size w3 W) => And.intro (CX3.out.on bb) (And.intro (CY3.out.on bb) (CZ3.out.on bb)))
  clear CX3 CY3 CZ3
  obtain ⟨nx, hnx⟩ : ∃ n, n = X.length := ⟨_, rfl⟩
  obtain ⟨ny, hny⟩ : ∃ n, n = Y.length := ⟨_, rfl⟩
  obtain ⟨nz, hnz⟩ : ∃ n, n = Z.length := ⟨_, rfl⟩
  rw [← hnx, ← hny, ← hnz] at AT
  rw [← hnx, ← hny, ← hnz]
  have HNX := Lib.hid hnx; have HNY := Lib.hid hny
  rw [← hnx] at hXl
  clear hnx hny hnz
  go_wp2_with fail
  refine (AW.out _).mono ?_
  rintro e w4 ⟨rfl, b4⟩
  have D4 := Lib.hid b4
  clear b4
  go_wp2_with fail
  refine (WI.out _ _ X X 40 40 _ (AT.out _ D4.out).1.r (AT.out _ D4.out).1.r UX.out (by omega) (by omega)).mono ?_
  rintro e w5 ⟨⟨d, rfl, hd⟩, b5⟩
  obtain rfl := hd.2 SELF.out
  have D5 := Lib.hid (D4.out.trans (b5.mono D4.out.size))
  clear b5 hd D4
  go_wp2_with fail
  refine (TT.out w5 _ _ (AT.out _ D5.out).1 (AT.out _ D5.out).2.1).mono ?_
  rintro e w6 ⟨xyv, rfl, cxy, b6⟩
  obtain ⟨xya, xyc, rfl⟩ := cxy.form
  have D6 := Lib.hid (D5.out.trans (b6.mono D5.out.size))
  have CXY := Lib.hid cxy
  obtain ⟨nxy, hnxy⟩ : ∃ n, n = XY.length := ⟨_, rfl⟩
  rw [← hnxy] at CXY ⊢
  clear b6 D5 cxy hnxy TT
  go_wp2_with fail
  refine (WI.out _ _ X XY 40 1000 _ (AT.out _ D6.out).1.r CXY.out.r UXY.out (by omega) (by omega)).mono ?_
  rintro e w7 ⟨⟨d, rfl, hd⟩, b7⟩
  obtain rfl := hd.2 WXY.out
  have D7 := Lib.hid (D6.out.trans (b7.mono D6.out.size))
  clear b7 hd D6 CXY
  go_wp2_with fail
  refine (WI.out _ _ [] X 0 40 _ (NIL.out _) (AT.out _ D7.out).1.r UX.out (by omega) (by omega)).mono ?_
  rintro e w8 ⟨⟨d, rfl, hd⟩, b8⟩
  obtain rfl := hd.2 (fun r hr => absurd hr (by simp))
  have D8 := Lib.hid (D7.out.trans (b8.mono D7.out.size))
  clear b8 hd D7
  go_wp2_with fail
  refine (WI.out _ _ X Y 40 40 _ (AT.out _ D8.out).1.r (AT.out _ D8.out).2.1.r UY.out (by omega) (by omega)).mono ?_
  rintro e w9 ⟨⟨dxy, rfl, hdxy⟩, b9⟩
  have D9 := Lib.hid (D8.out.trans (b9.mono D8.out.size))
  have HXY := Lib.hid hdxy
  clear b9 hdxy D8
  cases dxy
  case' false =>
    clear HXY
    go_upto_region 8 with fail
    have DZ := Lib.hid D9.out
    clear D9
  case' true =>
    have HX0 := Lib.hid (HXY.out.1 rfl)
    clear HXY
    go_wp2_with fail
    refine (WI.out _ _ Y Z 40 40 _ (AT.out _ D9.out).2.1.r (AT.out _ D9.out).2.2.r UZ.out (by omega) (by omega)).mono ?_
    rintro e w10 ⟨⟨dyz, rfl, hdyz⟩, b10⟩
    have D10 := Lib.hid (D9.out.trans (b10.mono D9.out.size))
    have HYZ := Lib.hid hdyz
    clear b10 hdyz D9
    cases dyz
    case' false =>
      clear HYZ
      go_upto_region 8 with fail
      have DZ := Lib.hid D10.out
      clear D10
    case' true =>
      have HXZ := Lib.hid (TRA.out HX0.out (HYZ.out.1 rfl))
      clear HYZ
      go_wp2_with fail
      refine (WI.out _ _ X Z 40 40 _ (AT.out _ D10.out).1.r (AT.out _ D10.out).2.2.r UZ.out (by omega) (by omega)).mono ?_
      rintro e w11 ⟨⟨d, rfl, hd⟩, b11⟩
      obtain rfl := hd.2 HXZ.out
      have DZ := Lib.hid (D10.out.trans (b11.mono D10.out.size))
      clear b11 hd D10
      go_upto_region 8 with fail
  all_goals
    go_wp2_with fail
    refine (WI.out _ _ X Y 40 40 _ (AT.out _ DZ.out).1.r (AT.out _ DZ.out).2.1.r UY.out (by omega) (by omega)).mono ?_
    rintro e wA ⟨⟨d, rfl, hd⟩, bA⟩
    have DA := Lib.hid (DZ.out.trans (bA.mono DZ.out.size))
    clear bA DZ
    cases d
    · clear hd
      go_wp2
      go_ret
      exact ⟨rfl, B3.out.trans (DA.out.mono B3.out.size)⟩
    · have HX := Lib.hid (hd.1 rfl)
      clear hd
      go_wp2_with fail
      refine (WI.out _ _ Y X 40 40 _ (AT.out _ DA.out).2.1.r (AT.out _ DA.out).1.r UX.out (by omega) (by omega)).mono ?_
      rintro e wB ⟨⟨d, rfl, hd⟩, bB⟩
      have DB := Lib.hid (DA.out.trans (bB.mono DA.out.size))
      clear bB DA
      cases d
      · clear hd
        go_wp2
        go_ret
        exact ⟨rfl, B3.out.trans (DB.out.mono B3.out.size)⟩
      · have HE := Lib.hid (ANT.out HX.out (hd.1 rfl))
        clear hd
        have hyl : Y.length ≤ 1000 := by rw [← HE.out]; have := HNX.out; omega
        have hxl : X.length ≤ 1000 := by have := HNX.out; omega
        go_wp2_with fail
        refine (TD.out _ _ X (AT.out _ DB.out).1.r hxl).mono ?_
        rintro e wC ⟨uv, rfl, tu, bC⟩
        have DC := Lib.hid (DB.out.trans (bC.mono DB.out.size))
        obtain ⟨ua, uc, rfl⟩ := tu.form
        have TU := Lib.hid tu
        obtain ⟨nu, hnu⟩ : ∃ n, n = X.length := ⟨_, rfl⟩
        rw [← hnu] at TU ⊢
        clear bC DB tu hnu
        go_wp2_with fail
        refine (TD.out _ _ Y (AT.out _ DC.out).2.1.r hyl).mono ?_
        rintro e wD ⟨vv, rfl, tv, bD⟩
        have DD := Lib.hid (DC.out.trans (bD.mono DC.out.size))
        have TU2 := Lib.hid (TU.out.on bD)
        have TV := Lib.hid (show TabR wD 40 vv X by rw [HE.out]; exact tv)
        obtain ⟨va, vc, rfl⟩ := tv.form
        obtain ⟨nv, hnv⟩ : ∃ n, n = Y.length := ⟨_, rfl⟩
        rw [← hnv] at TV ⊢
        clear bD DC TU tv hnv
        go_wp2_with fail
        refine (SM.out _ _ _ X TU2.out TV.out hxl).mono ?_
        rintro e wE ⟨rfl, bE⟩
        go_wp2
        go_ret
        exact ⟨rfl, B3.out.trans ((DD.out.trans (bE.mono DD.out.size)).mono B3.out.size)⟩
end Go.Proofs.YtfckgcckpfklaaaGreatDoor

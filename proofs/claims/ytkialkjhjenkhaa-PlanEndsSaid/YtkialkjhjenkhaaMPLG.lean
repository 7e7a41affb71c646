/- Layer 20: planOf. -/
import Derived.Test.YtkialkjhjenkhaaMPLF
namespace Go.Proofs.Ytkialkjhjenkhaa
open Go.RowKit Go.Lib
set_option linter.unusedVariables false

def toQ (qs : List Mq) : Int := qs.foldl (fun a q => max a q.m.mx) 0
def lvQ (qs : List Mq) : Int := qs.foldl (fun a q => max a q.m.lv) 0
theorem toQ_snoc (qs : List Mq) (q : Mq) : toQ (qs ++ [q]) = max (toQ qs) q.m.mx := by unfold toQ; rw [List.foldl_append]; rfl
theorem lvQ_snoc (qs : List Mq) (q : Mq) : lvQ (qs ++ [q]) = max (lvQ qs) q.m.lv := by unfold lvQ; rw [List.foldl_append]; rfl
theorem toQ_take (l : List Mq) (i : Nat) (q : Mq) (h : l[i]? = some q) : toQ (l.take (i + 1)) = max (toQ (l.take i)) q.m.mx := by rw [List.take_add_one, h]; exact toQ_snoc _ _
theorem lvQ_take (l : List Mq) (i : Nat) (q : Mq) (h : l[i]? = some q) : lvQ (l.take (i + 1)) = max (lvQ (l.take i)) q.m.lv := by rw [List.take_add_one, h]; exact lvQ_snoc _ _
theorem lvQ_le (qs : List Mq) (h : ∀ q ∈ qs, OkB q.m) : 0 ≤ lvQ qs ∧ lvQ qs ≤ 1000000 := by
  have key : ∀ (l : List Mq) (a : Int), (∀ q ∈ l, OkB q.m) → 0 ≤ a → a ≤ 1000000 → 0 ≤ l.foldl (fun a q => max a q.m.lv) a ∧ l.foldl (fun a q => max a q.m.lv) a ≤ 1000000 := by
    intro l
    induction l with
    | nil => intro a _ h1 h2; exact ⟨h1, h2⟩
    | cons x l ih =>
      intro a hl h1 h2
      have hx := (hl x (List.mem_cons_self ..)).2.2.1
      exact ih _ (fun q hq => hl q (List.mem_cons_of_mem _ hq)) (by simp only; omega) (by simp only; omega)
  exact key qs 0 h (by omega) (by omega)
/-- A plan as a value. -/
def planV (a b c : Int) (v : Value) : Value := .agg #[.int .i64 a, .int .i64 b, .int .i64 c, v]
structure PoL (w wr : World) (fr to lv : Int) (v : Value) : Prop where
  box : wr.heap[w.heap.size + 1]? = some (.cells #[.int .i64 fr, .int .i64 to, .int .i64 lv, v] 33 (0, 0))
  res : wr.heap[w.heap.size]? = some (.cells #[.int .i64 0, .int .i64 0, .int .i64 0, .slice none 0 0] 33 (0, 0))
  below : Below w.heap.size w wr
  big : w.heap.size + 2 ≤ wr.heap.size
theorem PoL.alloc {w wr : World} {fr to lv : Int} {v : Value} (h : PoL w wr fr to lv v) (o : Obj) : PoL w (wr.alloc o) fr to lv v := by
  have hb := h.big
  exact ⟨(Below.heap_alloc wr o _ (by omega)).trans h.box, (Below.heap_alloc wr o _ (by omega)).trans h.res, h.below.alloc h.below.size o, by simp; omega⟩
set_option maxHeartbeats 2000000 in
set_option maxRecDepth 100000 in
theorem planOf_any (v : Value) (qs : List Mq) (p0 : Mq) (w : World) (h : MsR w v qs) (hp0 : qs[0]? = some p0) (hm : qs.length ≤ 1000) (hk : ∀ q ∈ qs, OkB q.m) :
    Calls Try.prog 23 #[v] w fun e w' => e = .returned (planV p0.m.mn (toQ qs) (min (lvQ qs + 1) 9) v) ∧ Below w.heap.size w w' := by
  have HH := Lib.hid h
  have HK := Lib.hid hk
  obtain ⟨_, ad, cap, g, off, rfl, hg, hc⟩ := h.rd
  have HQ := Lib.hid (fun W (bb : Below w.heap.size w W) i q (hq : qs[i]? = some q) (h0 : 0 < qs.length) => mq_at hc bb (hg h0).2 i q hq)
  have hpos : 0 < qs.length := (List.getElem?_eq_some_iff.1 hp0).1
  obtain ⟨rfl, hgl⟩ := hg hpos
  clear h hg hc
  obtain ⟨-, z1, -⟩ := HQ.out w (Below.refl _ _) 0 p0 hp0 hpos
  rw [Nat.zero_mul, Nat.add_zero] at z1
  have z1a := ((Below.refl w.heap.size w).alloc (Nat.le_refl _) (.cells #[.int .i64 0, .int .i64 0, .int .i64 0, .slice none 0 0] 33)).cell (p := ⟨g, off + 1, none⟩) hgl
  rw [z1] at z1a
  have HP := Lib.hid hpos
  have hlv := lvQ_le qs hk
  have w9 : IntKind.i64.wrap (lvQ qs + 1) = lvQ qs + 1 := IntWalk.i64_in _ (by omega)
  obtain ⟨L, hL⟩ : ∃ L, L = lvQ qs := ⟨_, rfl⟩
  obtain ⟨T, hT⟩ : ∃ T, T = toQ qs := ⟨_, rfl⟩
  have HL := Lib.hid hL
  have HT := Lib.hid hT
  rw [← hL, ← hT]
  rw [← hL] at w9 hlv
  obtain ⟨N, hN⟩ : ∃ N, N = qs.length := ⟨_, rfl⟩
  have HN := Lib.hid hN
  rw [← hN] at hm hpos ⊢
  unfold planV
  clear hN hL hT hp0 hk
  have hposi : (0 : Int) < N := by omega
  have T0 := Lib.hid (show PoL w ((w.alloc (.cells #[.int .i64 0, .int .i64 0, .int .i64 0, .slice none 0 0] 33)).alloc (.cells #[.int .i64 p0.m.mn, .int .i64 0, .int .i64 0, .slice (some ⟨g, off, none⟩) N cap] 33)) p0.m.mn 0 0 (.slice (some ⟨g, off, none⟩) N cap) from by
    obtain ⟨X, hX⟩ : ∃ X : Obj, X = .cells #[.int .i64 0, .int .i64 0, .int .i64 0, .slice none 0 0] 33 := ⟨_, rfl⟩
    obtain ⟨Y, hY⟩ : ∃ Y : Obj, Y = .cells #[.int .i64 p0.m.mn, .int .i64 0, .int .i64 0, .slice (some ⟨g, off, none⟩) N cap] 33 := ⟨_, rfl⟩
    rw [← hX, ← hY]
    have s1 : (w.alloc X).heap.size = w.heap.size + 1 := by simp
    have b0 := heap_alloc_new (w.alloc X) Y
    rw [s1] at b0
    refine ⟨by rw [b0, hY], ?_, ((Below.refl _ _).alloc (Nat.le_refl _) _).alloc (by omega) _, by simp⟩
    rw [Below.heap_alloc (w.alloc X) Y w.heap.size (by omega), heap_alloc_new, hX])
  go_enter Try.func23, Try.ntmps23
  go_wp2_with fail
  go_loopw [14] (fun i' wr => ∃ i : Nat, i' = .int .i64 i ∧ i ≤ N ∧ PoL w wr p0.m.mn (toQ (qs.take i)) (lvQ (qs.take i)) (.slice (some ⟨g, off, none⟩) N cap)) (fun i' _ => N - (RowKit.intOf i').toNat)
  case atStart => exact ⟨0, rfl, Nat.zero_le _, T0.out⟩
  case round =>
    clear T0
    obtain ⟨W0, rfl⟩ : ∃ W0, W0 = wr := ⟨_, rfl⟩
    obtain ⟨i, rfl, hi, td⟩ := hrel
    by_cases hlt : i < N
    · have hil : (i : Int) < N := by omega
      have hiw : IntKind.i64.wrap ((i : Int) + 1) = (i : Int) + 1 := IntWalk.i64_in _ (by omega)
      obtain ⟨q, hq⟩ : ∃ q, qs[i]? = some q := ⟨_, List.getElem?_eq_getElem (by have := HN.out; omega)⟩
      have mq := (HH.out.ok q (List.mem_of_getElem? hq)).on td.below
      have hqq := HQ.out W0 td.below i q hq HP.out
      have HTO := Lib.hid (toQ_take qs i q hq)
      have HLV := Lib.hid (lvQ_take qs i q hq)
      obtain ⟨m, vf, vs⟩ := q
      replace mq : MeR W0 m vf vs := mq
      obtain ⟨af, kf, rfl⟩ := rd_form mq.1
      obtain ⟨a3, ks, rfl⟩ := rd_form mq.2.1
      obtain ⟨nf, hnf⟩ : ∃ nf, nf = m.files.length := ⟨_, rfl⟩
      obtain ⟨ns, hns⟩ : ∃ ns, ns = m.src.length := ⟨_, rfl⟩
      rw [← hnf, ← hns] at hqq
      obtain ⟨q0, q1, q2, q3, q4, q5, q6, q7⟩ := hqq
      simp only at q0 q1 q2 q3 q4 q5 q6 q7 HTO HLV
      have hbig := td.big
      have TD1 := Lib.hid (td.alloc (.cells #[.string (bs m.id), .int .i64 m.mn, .int .i64 m.mx, .int .i64 m.lv, .int .i64 m.se, .int .i64 m.sa, .slice af nf kf, .slice a3 ns ks] 53))
      obtain ⟨A, hA⟩ : ∃ A, A = toQ (qs.take i) := ⟨_, rfl⟩
      obtain ⟨B, hB⟩ : ∃ B, B = lvQ (qs.take i) := ⟨_, rfl⟩
      rw [← hA] at TD1 HTO
      rw [← hB] at TD1 HLV
      have HX := Lib.hid (show (W0.alloc (.cells #[.string (bs m.id), .int .i64 m.mn, .int .i64 m.mx, .int .i64 m.lv, .int .i64 m.se, .int .i64 m.sa, .slice af nf kf, .slice a3 ns ks] 53)).heap[W0.heap.size]? = some (.cells #[.string (bs m.id), .int .i64 m.mn, .int .i64 m.mx, .int .i64 m.lv, .int .i64 m.se, .int .i64 m.sa, .slice af nf kf, .slice a3 ns ks] 53) from heap_alloc_new _ _)
      have c1 := Lib.cell_of_heap TD1.out.box 1; have c2 := Lib.cell_of_heap TD1.out.box 2
      have f1 := Lib.frozen_of_heap TD1.out.box 1; have f2 := Lib.frozen_of_heap TD1.out.box 2
      have e2 := Lib.cell_of_heap HX.out 2; have e3 := Lib.cell_of_heap HX.out 3
      clear td mq hnf hns hq hA hB
      go_wp2_with fail
      have ha := TD1.out
      have hb1 := ha.big
      obtain ⟨W1, hW1⟩ : ∃ W1, W1 = W0.alloc (.cells #[.string (bs m.id), .int .i64 m.mn, .int .i64 m.mx, .int .i64 m.lv, .int .i64 m.se, .int .i64 m.sa, .slice af nf kf, .slice a3 ns ks] 53) := ⟨_, rfl⟩
      rw [← hW1] at ha hb1 ⊢
      refine ⟨⟨i + 1, by simp, by omega, ?_⟩, by simp [RowKit.intOf]; omega⟩
      rw [HTO.out, HLV.out]
      have k1 := heap_setCell_same W1 (w.heap.size + 1) 1 _ _ (.int .i64 (max A m.mx)) ha.box
      have k2 := heap_setCell_same _ (w.heap.size + 1) 2 _ _ (.int .i64 (max B m.lv)) k1
      exact ⟨k2, (Below.heap_setCell _ ⟨w.heap.size + 1, 2, none⟩ _ w.heap.size (by simp only; omega)).trans ((Below.heap_setCell _ ⟨w.heap.size + 1, 1, none⟩ _ w.heap.size (by simp only; omega)).trans ha.res), (ha.below.setCell (p := ⟨w.heap.size + 1, 1, none⟩) (by simp only; omega) _).setCell (p := ⟨w.heap.size + 1, 2, none⟩) (by simp only; omega) _, by simp only [World.size_setCell]; exact hb1⟩
    · have hil : ¬ (i : Int) < N := by omega
      have hiN : i = N := by omega
      rw [hiN, HN.out, List.take_length, ← HN.out, ← HL.out, ← HT.out] at td
      have TD := Lib.hid td
      have hbig := td.big
      have c0 := Lib.cell_of_heap td.box 0; have c1 := Lib.cell_of_heap td.box 1; have c2 := Lib.cell_of_heap td.box 2; have c3 := Lib.cell_of_heap td.box 3
      have f2 := Lib.frozen_of_heap td.box 2
      have y0 := Lib.cell_of_heap td.res 0; have y1 := Lib.cell_of_heap td.res 1; have y2 := Lib.cell_of_heap td.res 2; have y3 := Lib.cell_of_heap td.res 3
      have z0 := Lib.frozen_of_heap td.res 0; have z1' := Lib.frozen_of_heap td.res 1; have z2 := Lib.frozen_of_heap td.res 2; have z3 := Lib.frozen_of_heap td.res 3
      clear td hiN
      go_wp2_with fail
      refine bodyPost_ret (v := .agg #[.int .i64 p0.m.mn, .int .i64 T, .int .i64 (min (L + 1) 9), .slice (some ⟨g, off, none⟩) N cap]) (by simp [results, Try.results23, go_sem, y0, y1, y2, y3]) rfl ?_
      exact ⟨rfl, ((((TD.out.below.setCell (p := ⟨w.heap.size + 1, 2, none⟩) (by simp only; omega) _).setCell (p := ⟨w.heap.size, 0, none⟩) (Nat.le_refl _) _).setCell (p := ⟨w.heap.size, 1, none⟩) (Nat.le_refl _) _).setCell (p := ⟨w.heap.size, 2, none⟩) (Nat.le_refl _) _).setCell (p := ⟨w.heap.size, 3, none⟩) (Nat.le_refl _) _⟩
end Go.Proofs.Ytkialkjhjenkhaa

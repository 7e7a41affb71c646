/- Layer 20: the answers that the document fixes. -/
import Derived.Test.YtkialkjhjenkhaaMPLM
namespace Go.Proofs.Ytkialkjhjenkhaa
open Go.RowKit Go.Lib
set_option linter.unusedVariables false

def ogA : List Og := [⟨0, 0, 0, 0, false⟩, ⟨1, 0, 0, 0, false⟩, ⟨8, 0, 0, 0, false⟩]
def msA : List Mt.Me := [meO 10 0 ⟨0, 0, 0, 0, false⟩, meO 10 1 ⟨1, 0, 0, 0, false⟩, meO 10 2 ⟨8, 0, 0, 0, false⟩]
theorem msA_is : msO 10 ogA (min ogA.length 12) = msA := rfl
theorem ksA_is : ksO ogA (min ogA.length 12) = [] := rfl
theorem src_none (i : Nat) : srcN 0 i = [] := by
  unfold srcN
  have : (List.range i).filter (srcAt 0) = [] := by
    rw [List.filter_eq_nil_iff]
    intro a _
    unfold srcAt
    simp
  rw [this]; rfl
theorem freeA : FreeIs msA [] msA := by
  have s0 : ∀ p ∈ msA, p.src = [] := by
    intro p hp
    simp only [msA, List.mem_cons, List.not_mem_nil, or_false] at hp
    rcases hp with rfl | rfl | rfl <;> exact src_none _
  refine ⟨?_, fun m => ⟨fun h => ⟨h, ?_, by simp⟩, fun h => h.1⟩⟩
  · simp only [msA, List.pairwise_cons, List.mem_cons, List.not_mem_nil, or_false, false_implies, implies_true, List.Pairwise.nil, and_true]
    refine ⟨fun a h => ?_, fun a h => ?_⟩
    · rcases h with rfl | rfl <;> exact .inl (by decide)
    · subst h; exact .inl (by decide)
  · rintro ⟨p, hp, h⟩
    rw [s0 p hp] at h
    cases h
theorem totA (t : Tot) (i : Nat) (x : Og) (hx : x.sz = 0) : t.with (meO 10 i x) = ⟨t.b + 1, t.y + 9, t.s + 1, t.a + 1⟩ := by
  unfold Tot.with meO sumF sumF sumF
  simp [hx]
theorem scanA (rs : List Mq) (h : rs.map Mq.m = msA) : ∃ a b, (scanQ (3 * max 10 1) rs).or (scanQ (9 * max 10 1) rs) = some [a, b] ∧ a.m = meO 10 0 ⟨0, 0, 0, 0, false⟩ ∧ b.m = meO 10 1 ⟨1, 0, 0, 0, false⟩ := by
  obtain ⟨a, r, rfl, ha, h⟩ := List.map_eq_cons_iff.1 h
  obtain ⟨b, r, rfl, hb, h⟩ := List.map_eq_cons_iff.1 h
  obtain ⟨c, r, rfl, hc, h⟩ := List.map_eq_cons_iff.1 h
  obtain rfl := List.map_eq_nil_iff.1 h
  have f : fstQ (3 * max 10 1) [a, b, c] = [a, b] := by
    unfold fstQ
    simp only
    unfold fstG
    rw [ha, totA _ _ _ rfl]
    rw [if_neg (by decide), if_neg (by decide), if_pos (by decide)]
    unfold fstG
    rw [hb, totA _ _ _ rfl]
    rw [if_neg (by decide), if_neg (by decide), if_pos (by decide)]
    unfold fstG
    rw [hc]
    rw [if_pos (by decide)]
    rfl
  refine ⟨a, b, ?_, ha, hb⟩
  unfold scanQ
  rw [f, if_pos (by simp)]
  rfl
theorem toA (a b : Mq) (ha : a.m = meO 10 0 ⟨0, 0, 0, 0, false⟩) (hb : b.m = meO 10 1 ⟨1, 0, 0, 0, false⟩) : a.m.mn = 0 ∧ toQ [a, b] = 20 ∧ min (lvQ [a, b] + 1) 9 = 2 := by
  unfold toQ lvQ
  simp only [List.foldl, ha, hb]
  decide
theorem tomA (qs : List Mq) (h : qs.map Mq.m = msA) : tomQ [] qs = [] := by
  have s0 : ∀ q ∈ qs, q.m.src = [] := by
    intro q hq
    have hm : q.m ∈ msA := by rw [← h]; exact List.mem_map_of_mem hq
    simp only [msA, List.mem_cons, List.not_mem_nil, or_false] at hm
    rcases hm with e | e | e <;> rw [e] <;> exact src_none _
  unfold tomQ
  rw [List.filter_eq_nil_iff]
  intro q hq hs
  unfold srcs at hs
  rw [decide_eq_true_iff] at hs
  obtain ⟨p, hp, hx⟩ := hs
  rw [s0 p (List.mem_filter.1 hp).1] at hx
  cases hx
theorem okO (wd : Int) (hw : 1 ≤ wd ∧ wd ≤ 1000) (i : Nat) (x : Og) : OkB (meO wd i x) := by
  have hA : 0 ≤ x.fr % 16 ∧ x.fr % 16 < 16 := by omega
  have hB : 0 ≤ x.wi % 4 ∧ x.wi % 4 < 4 := by omega
  have hC : 0 ≤ x.sz % 32768 ∧ x.sz % 32768 < 32768 := by omega
  have hD : 0 ≤ x.sz % 262144 ∧ x.sz % 262144 < 262144 := by omega
  have h1 : 0 ≤ x.fr % 16 * wd ∧ x.fr % 16 * wd ≤ 16 * 1000 := ⟨Int.mul_nonneg hA.1 (by omega), Int.mul_le_mul (by omega) hw.2 (by omega) (by omega)⟩
  have h2 : 0 ≤ (1 + x.wi % 4) * wd ∧ (1 + x.wi % 4) * wd ≤ 4 * 1000 := ⟨Int.mul_nonneg (by omega) (by omega), Int.mul_le_mul (by omega) hw.2 (by omega) (by omega)⟩
  unfold meO OkB
  simp only
  refine ⟨by omega, by omega, by omega, by omega, by omega, fun j => ?_⟩
  rcases (show j = 0 ∨ j = 1 ∨ 2 ≤ j by omega) with rfl | rfl | hj
  · simp [sumF]
  · simp [sumF]; omega
  · rw [List.take_of_length_le (by simp; omega)]
    simp [sumF]; omega
theorem okO_all (wd : Int) (hw : 1 ≤ wd ∧ wd ≤ 1000) (l : List Og) (i : Nat) (qs : List Mq) (h : qs.map Mq.m = msO wd l i) : ∀ q ∈ qs, OkB q.m := by
  intro q hq
  have hm : q.m ∈ msO wd l i := by rw [← h]; exact List.mem_map_of_mem hq
  unfold msO at hm
  obtain ⟨k, _, hk⟩ := List.mem_filterMap.1 hm
  obtain ⟨x, _, e⟩ := Option.map_eq_some_iff.1 hk
  rw [← e]
  exact okO wd hw k x
theorem box_two (w : World) (X Y : Obj) : ((w.alloc X).alloc Y).heap[w.heap.size]? = some X ∧ Below w.heap.size w ((w.alloc X).alloc Y) := by
  have s1 : (w.alloc X).heap.size = w.heap.size + 1 := by simp
  exact ⟨(Below.heap_alloc (w.alloc X) Y w.heap.size (by omega)).trans (heap_alloc_new w X), ((Below.refl _ _).alloc (Nat.le_refl _) X).alloc (by omega) Y⟩
theorem box_keep (W w3 : World) (Z : Obj) (b : Nat) (h : Below W.heap.size W w3) (hb : b < W.heap.size) : (w3.alloc Z).heap[b]? = W.heap[b]? ∧ Below W.heap.size W (w3.alloc Z) := by
  have z := h.size
  exact ⟨(Below.heap_alloc w3 Z b (by omega)).trans (h.block b hb), h.alloc z Z⟩
theorem upA (rs : List Mq) (h : rs.map Mq.m = msA) : UpQ rs := msO_up 10 ogA 3 (by decide) (by decide) rs h
theorem lenA (rs : List Mq) (h : rs.map Mq.m = msA) : rs.length = 3 := by
  have := congrArg List.length h
  rw [List.length_map] at this; exact this
theorem nextA_any (v : Value) (rs : List Mq) (w : World) (h : LstR w v 5 rs []) (hm : rs.map Mq.m = msA) :
    Calls Try.prog 8 #[v, .int .i64 10] w fun e w' => ∃ a k, e = .returned (.tuple #[.agg #[.int .i64 0, .int .i64 20, .int .i64 2, .slice a 2 k], .bool true]) ∧ Below w.heap.size w w' := by
  refine (plnext_any v 5 10 rs [] w h (upA rs hm) (by rw [lenA rs hm]; decide) (okO_all 10 (by decide) ogA 3 rs hm) (by decide)).mono ?_
  rintro e w' ⟨rs', hf, ho, b⟩
  have e1 : rs'.map Mq.m = msA := hf.one (by rw [hm]; exact freeA)
  obtain ⟨a, c, h1, ha, hc⟩ := scanA rs' e1
  rcases ho with ⟨s, p0, v', h2, h3, rfl, h4⟩ | ⟨h2, _⟩
  · rw [h1] at h2
    obtain rfl := Option.some.inj h2
    obtain rfl : a = p0 := by simpa using h3
    obtain ⟨t1, t2, t3⟩ := toA a c ha hc
    obtain ⟨a2, k2, rfl⟩ := rd_form h4.rd
    exact ⟨a2, k2, by rw [t1, t2, t3]; rfl, b⟩
  · rw [h1] at h2; cases h2
theorem rankA_any (v : Value) (rs : List Mq) (w : World) (h : LstR w v 5 rs []) (hm : rs.map Mq.m = msA) :
    Calls Try.prog 14 #[v] w fun e w' => e = .returned (.int .i64 2) ∧ Below w.heap.size w w' := by
  refine (rank_any v 5 rs [] w h (upA rs hm) (by rw [lenA rs hm]; decide)).mono ?_
  rintro e w' ⟨F, hf, rfl, b⟩
  have e1 : F = msA := hf.one (by rw [hm]; exact freeA)
  exact ⟨by rw [e1]; rfl, b⟩
theorem tomA_any (v : Value) (rs : List Mq) (w : World) (h : LstR w v 5 rs []) (hm : rs.map Mq.m = msA) :
    Calls Try.prog 12 #[v] w fun e w' => ∃ a k, e = .returned (.slice a 0 k) ∧ Below w.heap.size w w' := by
  refine (tomark_any v 5 rs [] w h (upA rs hm) (by rw [lenA rs hm]; decide)).mono ?_
  rintro e w' ⟨v', rfl, hs, b⟩
  rw [tomA rs hm] at hs
  obtain ⟨a, k, rfl⟩ := hs.slice
  exact ⟨a, k, rfl, b⟩
theorem LstR.on {w w' : World} {v : Value} {t : Int} {qs : List Mq} {K : List (List UInt8)} (h : LstR w v t qs K) (b : Below w.heap.size w w') : LstR w' v t qs K := by
  obtain ⟨ms, mp, e, h1, h2⟩ := h
  exact ⟨ms, mp, e, h1.on b, h2.turn (S := fun _ => False) (Turn.of_below b) id⟩
set_option maxHeartbeats 4000000 in
set_option maxRecDepth 100000 in
theorem awake20_any (w : World) : Calls Try.prog 10 #[] w fun e w' => e = .returned (.bool true) ∧ Below w.heap.size w w' := by
  have LS := Lib.hid (show Calls Try.prog 7 #[.slice (some ⟨w.heap.size, 0, none⟩) 3 3, .int .i64 10] (w.alloc (.cells #[.int .i64 0, .int .i64 0, .int .i64 0, .int .i64 0, .bool false, .int .i64 1, .int .i64 0, .int .i64 0, .int .i64 0, .bool false, .int .i64 8, .int .i64 0, .int .i64 0, .int .i64 0, .bool false] 64)) (fun e w' => ∃ a9 k9 mp a8 k8 rs, e = .returned (.tuple #[.agg #[.int .i64 5, .slice a9 3 k9, .map (some mp)], .agg #[.int .i64 5, .slice a8 3 k8]]) ∧ LstR w' (.agg #[.int .i64 5, .slice a9 3 k9, .map (some mp)]) 5 rs [] ∧ rs.map Mq.m = msA ∧ Below (w.alloc (.cells #[.int .i64 0, .int .i64 0, .int .i64 0, .int .i64 0, .bool false, .int .i64 1, .int .i64 0, .int .i64 0, .int .i64 0, .bool false, .int .i64 8, .int .i64 0, .int .i64 0, .int .i64 0, .bool false] 64)).heap.size (w.alloc (.cells #[.int .i64 0, .int .i64 0, .int .i64 0, .int .i64 0, .bool false, .int .i64 1, .int .i64 0, .int .i64 0, .int .i64 0, .bool false, .int .i64 8, .int .i64 0, .int .i64 0, .int .i64 0, .bool false] 64)) w') from
    (listing20_any (.slice (some ⟨w.heap.size, 0, none⟩) 3 3) ogA 10 _ ⟨rfl, some ⟨w.heap.size, 0, none⟩, 3, w.heap.size, 0, rfl, fun _ => ⟨rfl, by simp⟩, fun j hj => by
      have h1 := Lib.cell_of_heap (heap_alloc_new w (.cells #[.int .i64 0, .int .i64 0, .int .i64 0, .int .i64 0, .bool false, .int .i64 1, .int .i64 0, .int .i64 0, .int .i64 0, .bool false, .int .i64 8, .int .i64 0, .int .i64 0, .int .i64 0, .bool false] 64)) j
      rw [Nat.zero_add, h1, ← Array.getElem?_toList]
      rfl⟩ (by omega)).mono (by
      rintro e w1 ⟨⟨lv, v8, rs, ts, rfl, hl, hrm, hv8, -, -, -⟩, b1⟩
      rw [ksA_is] at hl
      rw [msA_is] at hrm
      obtain ⟨ms, mp, rfl, hm1, hm2⟩ := hl
      obtain ⟨a9, k9, e9⟩ := rd_form hm1.rd
      rw [lenA rs hrm] at e9
      obtain ⟨a8, k8, e8⟩ := rd_form hv8
      rw [show min ogA.length 12 = 3 from rfl] at e8
      subst e9 e8
      exact ⟨a9, k9, mp, a8, k8, rs, rfl, ⟨_, mp, rfl, hm1, hm2⟩, hrm, b1⟩))
  have BA := Lib.hid (show Below w.heap.size w (w.alloc (.cells #[.int .i64 0, .int .i64 0, .int .i64 0, .int .i64 0, .bool false, .int .i64 1, .int .i64 0, .int .i64 0, .int .i64 0, .bool false, .int .i64 8, .int .i64 0, .int .i64 0, .int .i64 0, .bool false] 64)) from (Below.refl _ _).alloc (Nat.le_refl _) _)
  go_enter Try.func10, Try.ntmps10
  go_wp2_with (first
    | (go_at_call 7; (with_reducible refine LS.out.mono ?_); rintro e w1 ⟨a9, k9, mp, a8, k8, rs, rfl, hl, hrm, b1⟩; have HL := Lib.hid hl; have HRM := Lib.hid hrm; have B1 := Lib.hid b1; have BB := Lib.hid (box_two w1 (.cells #[.int .i64 5, .slice a9 3 k9, .map (some mp)] 26) (.cells #[.int .i64 5, .slice a8 3 k8] 29)); have c0 := Lib.cell_of_heap BB.out.1 0; have c1 := Lib.cell_of_heap BB.out.1 1; have c2 := Lib.cell_of_heap BB.out.1 2; have NX := Lib.hid (nextA_any _ rs _ (hl.on BB.out.2) hrm); clear hl hrm b1)
    | (go_at_call 8; (with_reducible refine NX.out.mono ?_); rintro e w3 ⟨a, k, rfl, b3⟩; have B3 := Lib.hid b3; have BC := Lib.hid (box_keep ((w1.alloc (.cells #[.int .i64 5, .slice a9 3 k9, .map (some mp)] 26)).alloc (.cells #[.int .i64 5, .slice a8 3 k8] 29)) w3 (.cells #[.int .i64 0, .int .i64 20, .int .i64 2, .slice a 2 k] 33) w1.heap.size b3 (by simp; omega)); have d := Lib.hid (heap_alloc_new w3 (.cells #[.int .i64 0, .int .i64 20, .int .i64 2, .slice a 2 k] 33)); have p0 := Lib.cell_of_heap d.out 0; have p1 := Lib.cell_of_heap d.out 1; have p2 := Lib.cell_of_heap d.out 2; have p3 := Lib.cell_of_heap d.out 3; have hq1 := BC.out.1.trans BB.out.1; clear c0 c1 c2; have c0 := Lib.cell_of_heap hq1 0; have c1 := Lib.cell_of_heap hq1 1; have c2 := Lib.cell_of_heap hq1 2; have RK := Lib.hid (rankA_any _ rs _ ((HL.out.on BB.out.2).on BC.out.2) HRM.out); have HQ1 := Lib.hid hq1; clear b3 hq1)
    | (go_at_call 14; (with_reducible refine RK.out.mono ?_); rintro e w5 ⟨rfl, b5⟩; have B5 := Lib.hid b5; have hq1 := (b5.block w1.heap.size (by have := B3.out.size; simp at this ⊢; omega)).trans HQ1.out; clear c0 c1 c2; have c0 := Lib.cell_of_heap hq1 0; have c1 := Lib.cell_of_heap hq1 1; have c2 := Lib.cell_of_heap hq1 2; have TM := Lib.hid (tomA_any _ rs _ (((HL.out.on BB.out.2).on BC.out.2).on b5) HRM.out); clear b5 hq1)
    | (go_at_call 12; (with_reducible refine TM.out.mono ?_); rintro e w6 ⟨a', k', rfl, b6⟩; have B6 := Lib.hid b6; clear b6)
    | fail)
  go_ret
  refine ⟨rfl, ?_⟩
  have z1 := B1.out.size
  have z3 := B3.out.size
  have z5 := B5.out.size
  simp at z1 z3 z5
  have b01 := BA.out.trans (B1.out.mono (by simp))
  have b12 := b01.trans (BB.out.2.mono (by omega))
  have b23 := b12.trans (BC.out.2.mono (by simp; omega))
  have b35 := b23.trans (B5.out.mono (by simp; omega))
  exact b35.trans (B6.out.mono (by omega))
end Go.Proofs.Ytkialkjhjenkhaa

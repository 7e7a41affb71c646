/- Layer 20: with one more. How many bits a number has (math/bits.Len64, Len). -/
import Derived.Test.YtkialkjhjenkhaaMPLB
import Derived.Test.YtkialkjhjenkhaaMB0
import Derived.Lib.Tables
import Derived.Lib.BitFns
import Derived.Lib.Walk
import Derived.Deep.Light
namespace Go.Proofs.Ytkialkjhjenkhaa
open Go.RowKit Go.Lib
set_option linter.unusedVariables false

def sumF : List Mt.Fl → Int
  | [] => 0
  | f :: l => f.size + sumF l
theorem sumF_append (a b : List Mt.Fl) : sumF (a ++ b) = sumF a + sumF b := by
  induction a with
  | nil => simp [sumF]
  | cons x a ih => simp only [List.cons_append, sumF, ih]; omega
def Tot.with (t : Tot) (m : Mt.Me) : Tot := ⟨t.b + 1, t.y + sumF m.files, t.s + m.se, t.a + m.sa⟩
/-- The boxes of with. -/
structure WiL (w wr : World) (m : Mt.Me) (vf vs : Value) (b y s a : Int) : Prop where
  t : wr.heap[w.heap.size]? = some (.cells #[.int .i64 b, .int .i64 y, .int .i64 s, .int .i64 a] 95 (0, 0))
  m : wr.heap[w.heap.size + 1]? = some (.cells #[.string (bs m.id), .int .i64 m.mn, .int .i64 m.mx, .int .i64 m.lv, .int .i64 m.se, .int .i64 m.sa, vf, vs] 53 (0, 0))
  r : wr.heap[w.heap.size + 1 + 1]? = some (.cells #[.int .i64 0, .int .i64 0, .int .i64 0, .int .i64 0] 95 (0, 0))
  below : Below w.heap.size w wr
  big : w.heap.size + 3 ≤ wr.heap.size
theorem WiL.alloc {w wr : World} {m : Mt.Me} {vf vs : Value} {b y s a : Int} (h : WiL w wr m vf vs b y s a) (o : Obj) : WiL w (wr.alloc o) m vf vs b y s a := by
  have hb := h.big
  exact ⟨(Below.heap_alloc wr o _ (by omega)).trans h.t, (Below.heap_alloc wr o _ (by omega)).trans h.m, (Below.heap_alloc wr o _ (by omega)).trans h.r, h.below.alloc h.below.size o, by simp; omega⟩
theorem sumF_take (l : List Mt.Fl) (i : Nat) (f : Mt.Fl) (h : l[i]? = some f) : sumF (l.take (i + 1)) = sumF (l.take i) + f.size := by
  rw [List.take_add_one, h, sumF_append]; simp [sumF]
/-- A block's numbers are those of a block. -/
def OkB (m : Mt.Me) : Prop := (0 ≤ m.mn ∧ m.mn ≤ 1000000) ∧ (0 ≤ m.mx ∧ m.mx ≤ 1000000) ∧ (0 ≤ m.lv ∧ m.lv ≤ 1000000) ∧ (0 ≤ m.se ∧ m.se ≤ 1000000) ∧ (0 ≤ m.sa ∧ m.sa ≤ 1000000) ∧ ∀ i, 0 ≤ sumF (m.files.take i) ∧ sumF (m.files.take i) ≤ 10000000
def Tot.Lo (t : Tot) : Prop := (0 ≤ t.b ∧ t.b ≤ 1000000) ∧ (0 ≤ t.y ∧ t.y ≤ 1000000) ∧ (0 ≤ t.s ∧ t.s ≤ 1000000) ∧ (0 ≤ t.a ∧ t.a ≤ 1000000)
theorem Tot.Lo.with {t : Tot} {m : Mt.Me} (h : t.Lo) (k : OkB m) (hf : (t.with m).fits = true) : (t.with m).Lo := by
  obtain ⟨tb, ty, ts, ta⟩ := t
  obtain ⟨h1, h2, h3, h4⟩ := h
  obtain ⟨_, _, _, k4, k5, k6⟩ := k
  have k7 := k6 m.files.length
  rw [List.take_length] at k7
  unfold Tot.fits Tot.with at hf
  simp only [Bool.and_eq_true, decide_eq_true_eq] at hf
  unfold Tot.with
  simp only at h1 h2 h3 h4 hf ⊢
  refine ⟨?_, ?_, ?_, ?_⟩ <;> simp only <;> omega
set_option maxHeartbeats 2000000 in
set_option maxRecDepth 100000 in
theorem with_any (t : Tot) (m : Mt.Me) (vf vs : Value) (w : World) (h : MeR w m vf vs) (ht : t.Lo) (hm : OkB m) :
    Calls Try.prog 44 #[totV t, meV m vf vs] w fun e w' => e = .returned (totV (t.with m)) ∧ Below w.heap.size w w' := by
  obtain ⟨⟨_, af, kf, gf, of', rfl, hgf, hcf⟩, ⟨_, a5, k5, g5, o5, rfl, _, _⟩, hfm, _⟩ := h
  obtain ⟨tb, ty, ts, ta⟩ := t
  obtain ⟨h1, hy, h3, h4⟩ := ht
  obtain ⟨_, _, _, hse, hsa, h2⟩ := hm
  simp only at h1 hy h3 h4
  obtain ⟨nf, hnf⟩ : ∃ nf, nf = m.files.length := ⟨_, rfl⟩
  obtain ⟨ns, hns⟩ : ∃ ns, ns = m.src.length := ⟨_, rfl⟩
  have HNF := Lib.hid hnf
  rw [← hnf] at hgf hcf hfm
  have HGF := Lib.hid hgf; have HCF := Lib.hid hcf; have H2 := Lib.hid h2; have HY := Lib.hid hy
  have w1 : IntKind.i64.wrap (tb + 1) = tb + 1 := IntWalk.i64_in _ (by omega)
  have w2 : IntKind.i64.wrap (ts + m.se) = ts + m.se := IntWalk.i64_in _ (by omega)
  have w3 : IntKind.i64.wrap (ta + m.sa) = ta + m.sa := IntWalk.i64_in _ (by omega)
  clear h1 h3 h4 hse hsa
  have HWI := Lib.hid (show Tot.with ⟨tb, ty, ts, ta⟩ m = ⟨tb + 1, ty + sumF m.files, ts + m.se, ta + m.sa⟩ from rfl)
  rw [HWI.out]
  unfold totV meV
  simp only
  rw [← hnf, ← hns]
  have T0 := Lib.hid (show WiL w (((w.alloc (.cells #[.int .i64 (tb + 1), .int .i64 ty, .int .i64 ts, .int .i64 ta] 95)).alloc (.cells #[.string (bs m.id), .int .i64 m.mn, .int .i64 m.mx, .int .i64 m.lv, .int .i64 m.se, .int .i64 m.sa, .slice af nf kf, .slice a5 ns k5] 53)).alloc (.cells #[.int .i64 0, .int .i64 0, .int .i64 0, .int .i64 0] 95)) m (.slice af nf kf) (.slice a5 ns k5) (tb + 1) ty ts ta from by
    obtain ⟨X, hX⟩ : ∃ X : Obj, X = .cells #[.int .i64 (tb + 1), .int .i64 ty, .int .i64 ts, .int .i64 ta] 95 := ⟨_, rfl⟩
    obtain ⟨Y, hY⟩ : ∃ Y : Obj, Y = .cells #[.string (bs m.id), .int .i64 m.mn, .int .i64 m.mx, .int .i64 m.lv, .int .i64 m.se, .int .i64 m.sa, .slice af nf kf, .slice a5 ns k5] 53 := ⟨_, rfl⟩
    obtain ⟨Z, hZ⟩ : ∃ Z : Obj, Z = .cells #[.int .i64 0, .int .i64 0, .int .i64 0, .int .i64 0] 95 := ⟨_, rfl⟩
    rw [← hX, ← hY, ← hZ]
    have s1 : (w.alloc X).heap.size = w.heap.size + 1 := by simp
    have s2 : ((w.alloc X).alloc Y).heap.size = w.heap.size + 1 + 1 := by simp
    have b0 := heap_alloc_new ((w.alloc X).alloc Y) Z
    rw [s2] at b0
    have b1 := heap_alloc_new (w.alloc X) Y
    rw [s1] at b1
    refine ⟨?_, ?_, by rw [b0, hZ], ((((Below.refl _ _).alloc (Nat.le_refl _) _).alloc (by omega) _).alloc (by omega) _), by simp⟩
    · rw [Below.heap_alloc ((w.alloc X).alloc Y) Z w.heap.size (by omega), Below.heap_alloc (w.alloc X) _ w.heap.size (by omega), heap_alloc_new, hX]
    · rw [Below.heap_alloc ((w.alloc X).alloc Y) Z (w.heap.size + 1) (by omega), b1, hY])
  clear hnf hns hgf hcf h2 hy
  go_enter Try.func44, Try.ntmps44
  go_wp2_with fail
  go_loopw [14] (fun i' wr => ∃ i : Nat, i' = .int .i64 i ∧ i ≤ nf ∧ WiL w wr m (.slice af nf kf) (.slice a5 ns k5) (tb + 1) (ty + sumF (m.files.take i)) ts ta) (fun i' _ => nf - (RowKit.intOf i').toNat)
  case atStart => exact ⟨0, rfl, Nat.zero_le _, by rw [List.take_zero]; simp only [sumF, Int.add_zero]; exact T0.out⟩
  case round =>
    clear T0
    obtain ⟨W0, rfl⟩ : ∃ W0, W0 = wr := ⟨_, rfl⟩
    obtain ⟨i, rfl, hi, td⟩ := hrel
    have TD := Lib.hid td
    have hbig := td.big
    by_cases hlt : i < nf
    · obtain ⟨rfl, hgl⟩ := HGF.out (by omega)
      have hil : (i : Int) < nf := by omega
      obtain ⟨f, hf⟩ : ∃ f, m.files[i]? = some f := ⟨_, List.getElem?_eq_getElem (by have := HNF.out; omega)⟩
      obtain ⟨y0, y1, y2⟩ := flc_at m.files i f hf
      have q0 := ((td.below.cell (p := ⟨gf, of' + i * 3, none⟩) hgl).trans (HCF.out (i * 3) (by omega))).trans y0
      have q1 := ((td.below.cell (p := ⟨gf, of' + (i * 3 + 1), none⟩) hgl).trans (HCF.out (i * 3 + 1) (by omega))).trans y1
      have q2 := ((td.below.cell (p := ⟨gf, of' + (i * 3 + 2), none⟩) hgl).trans (HCF.out (i * 3 + 2) (by omega))).trans y2
      rw [← Nat.add_assoc] at q1 q2
      have hsum := sumF_take m.files i f hf
      have hr := H2.out (i + 1)
      have hr0 := H2.out i
      have hy := HY.out
      obtain ⟨Y, hY⟩ : ∃ Y, Y = ty + sumF (m.files.take i) := ⟨_, rfl⟩
      have hY2 : ty + sumF (m.files.take (i + 1)) = Y + f.size := by rw [hsum, hY]; omega
      have HY2 := Lib.hid hY2
      rw [← hY] at td TD
      have w5 : IntKind.i64.wrap (Y + f.size) = Y + f.size := IntWalk.i64_in _ (by omega)
      have TA := Lib.hid (td.alloc (.cells #[.string (bs f.name), .int .i64 f.size, .int .u32 f.sum] 57))
      have c1 := Lib.cell_of_heap TA.out.t 1
      have g1 := Lib.frozen_of_heap TA.out.t 1
      have e1 := Lib.cell_of_heap (heap_alloc_new W0 (.cells #[.string (bs f.name), .int .i64 f.size, .int .u32 f.sum] 57)) 1
      clear td hf y0 y1 y2 hsum hr hr0 hy hY hY2
      go_wp2_with fail
      have ha := TA.out
      refine ⟨⟨i + 1, by simp, by omega, ?_⟩, by simp [RowKit.intOf]; omega⟩
      rw [HY2.out]
      have hz := ha.big
      refine ⟨by rw [heap_setCell_same _ w.heap.size 1 _ _ (.int .i64 (Y + f.size)) ha.t]; rfl, (Below.heap_setCell _ ⟨w.heap.size, 1, none⟩ _ (w.heap.size + 1) (by simp)).trans ha.m, (Below.heap_setCell _ ⟨w.heap.size, 1, none⟩ _ (w.heap.size + 1 + 1) (by simp only; omega)).trans ha.r, ha.below.setCell (p := ⟨w.heap.size, 1, none⟩) (Nat.le_refl _) _, by simp only [World.size_setCell]; exact hz⟩
    · have hil : ¬ (i : Int) < nf := by omega
      have hiN : i = nf := by omega
      have hall : ty + sumF (m.files.take i) = ty + sumF m.files := by rw [hiN, HNF.out, List.take_length]
      rw [hall] at td TD
      obtain ⟨Y, hY⟩ : ∃ Y, Y = ty + sumF m.files := ⟨_, rfl⟩
      rw [← hY] at td TD
      have HYY := Lib.hid hY
      clear hall hY hiN hlt
      have c1 := Lib.cell_of_heap td.t 0; have c2 := Lib.cell_of_heap td.t 1; have c3 := Lib.cell_of_heap td.t 2; have c4 := Lib.cell_of_heap td.t 3
      have g1 := Lib.frozen_of_heap td.t 2; have g2 := Lib.frozen_of_heap td.t 3
      have m4 := Lib.cell_of_heap td.m 4; have m5 := Lib.cell_of_heap td.m 5
      have y0 := Lib.cell_of_heap td.r 0; have y1 := Lib.cell_of_heap td.r 1; have y2 := Lib.cell_of_heap td.r 2; have y3 := Lib.cell_of_heap td.r 3
      have z0 := Lib.frozen_of_heap td.r 0; have z1 := Lib.frozen_of_heap td.r 1; have z2 := Lib.frozen_of_heap td.r 2; have z3 := Lib.frozen_of_heap td.r 3
      clear td
      go_wp2_with fail
      refine bodyPost_ret (v := .agg #[.int .i64 (tb + 1), .int .i64 Y, .int .i64 (ts + m.se), .int .i64 (ta + m.sa)]) (by simp [results, Try.results44, go_sem, y0, y1, y2, y3]) rfl ?_
      exact ⟨by rw [HYY.out], (((((TD.out.below.setCell (p := ⟨w.heap.size, 2, none⟩) (Nat.le_refl _) _).setCell (p := ⟨w.heap.size, 3, none⟩) (Nat.le_refl _) _).setCell (p := ⟨w.heap.size + 1 + 1, 0, none⟩) (by simp only; omega) _).setCell (p := ⟨w.heap.size + 1 + 1, 1, none⟩) (by simp only; omega) _).setCell (p := ⟨w.heap.size + 1 + 1, 2, none⟩) (by simp only; omega) _).setCell (p := ⟨w.heap.size + 1 + 1, 3, none⟩) (by simp only; omega) _⟩
end Go.Proofs.Ytkialkjhjenkhaa

namespace Go.Proofs.Ytkialkjhjenkhaa
open Go.RowKit

theorem tab_all : ∀ i : Fin 256, (Lib.len8tab.data.getD i.val 0).toNat = Lib.bitLen i.val := by decide +kernel
theorem tab_size : Lib.len8tab.size = 256 := by decide +kernel
theorem tab_get (y : Nat) (h : y < Lib.len8tab.size) : (Lib.len8tab[y]'h).toNat = Lib.bitLen y := by
  have h' : y < 256 := by have := tab_size; omega
  have := tab_all ⟨y, h'⟩
  rw [← this]
  have h2 : y < Lib.len8tab.data.size := h
  rw [Array.getD_eq_getD_getElem?, Array.getElem?_eq_getElem h2]
  rfl
theorem shift_len (x y k : Nat) (hx : x < 2 ^ 64) (hk : 2 ^ k ≤ x ∨ k = 0) (hy : y = x / 2 ^ k) : Lib.bitLen x = k + Lib.bitLen y := by
  subst hy
  rcases hk with h | rfl
  · exact Lib.bitLen_shift k x h hx
  · simp
theorem len_end (x m : Nat) (e : Int) (k : Nat) (hx2 : x ≤ 18446744073709551615) (hk : 2 ^ k ≤ x ∨ k = 0) (hm : m = x / 2 ^ k) (hk64 : k ≤ 56) (h : m < Lib.len8tab.size) (he : e = (k : Int) + wrap64 ((Lib.len8tab[m]'h).toNat : Int)) :
    wrap64 e = (Lib.bitLen x : Int) := by
  rw [tab_get m h] at he
  have h2 : m < 256 := Nat.lt_of_lt_of_eq h tab_size
  clear h
  have h8 := Lib.bitLen_le m 8 (by decide) h2
  have hs := shift_len x m k (Nat.lt_of_le_of_lt hx2 (by decide)) hk hm
  generalize Lib.bitLen m = q at *
  rw [hs, he]
  unfold wrap64
  omega

set_option maxHeartbeats 4000000 in
set_option maxRecDepth 100000 in
theorem len64_any (x : Int) (w : World) (h0 : 0 ≤ x) (h1 : x ≤ 18446744073709551615) :
    Calls Try.prog 65 #[.int .u64 x] w fun e w' => e = .returned (.int .i64 (Lib.bitLen x.toNat)) ∧ w = w' := by
  go_enter Try.func65, Try.ntmps65
  go_wp2
  all_goals first
    | (go_ret; refine ⟨congrArg Ending.returned (congrArg (Value.int IntKind.i64) ?_), rfl⟩; go_light)
    | (exfalso; go_light; have hs := tab_size; omega)
  all_goals first | exact len_end x.toNat _ _ 56 (by omega) (.inl (by omega)) (by omega) (by decide) _ rfl | exact len_end x.toNat _ _ 48 (by omega) (.inl (by omega)) (by omega) (by decide) _ rfl | exact len_end x.toNat _ _ 40 (by omega) (.inl (by omega)) (by omega) (by decide) _ rfl | exact len_end x.toNat _ _ 32 (by omega) (.inl (by omega)) (by omega) (by decide) _ rfl | exact len_end x.toNat _ _ 24 (by omega) (.inl (by omega)) (by omega) (by decide) _ rfl | exact len_end x.toNat _ _ 16 (by omega) (.inl (by omega)) (by omega) (by decide) _ rfl | exact len_end x.toNat _ _ 8 (by omega) (.inl (by omega)) (by omega) (by decide) _ rfl | exact len_end x.toNat x.toNat _ 0 (by omega) (.inr rfl) (by simp) (by decide) (by omega) (by simp)

theorem len_any (x : Nat) (w : World) (h1 : x < 9223372036854775808) :
    Calls Try.prog 48 #[.int .u64 x] w fun e w' => e = .returned (.int .i64 (Lib.bitLen x)) ∧ w = w' := by
  have H := Lib.hid (fun W : World => show Calls Try.prog 65 #[.int .u64 x] W fun e w' => e = .returned (.int .i64 (Lib.bitLen x)) ∧ W = w' by
    have := len64_any x W (by omega) (by omega)
    rwa [Int.toNat_natCast] at this)
  go_enter Try.func48, Try.ntmps48
  go_wp2_with (go_at_call 65; refine (H.out _).mono ?_; rintro e w' ⟨rfl, rfl⟩)
  go_ret
  exact ⟨rfl, rfl⟩
end Go.Proofs.Ytkialkjhjenkhaa

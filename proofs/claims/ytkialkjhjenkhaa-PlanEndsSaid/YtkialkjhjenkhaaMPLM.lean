/- Layer 20: the statements' listings, made. -/
import Derived.Test.YtkialkjhjenkhaaMPLL
namespace Go.Proofs.Ytkialkjhjenkhaa
open Go.RowKit Go.Lib
set_option linter.unusedVariables false

theorem zc_blk : (Try.prog.info? 70).map (fun i => (i.zero, i.size, i.bytes)) = some (some (.agg #[.string ⟨#[]⟩, .int .i64 0, .int .i64 0, .int .i64 0, .int .i64 0, .int .i64 0, .slice none 0 0, .slice none 0 0, .int .i64 0]), 9, 112) := by kernel_rfl
theorem mask1 (n : Int) : bits .and .i64 n 1 = n % 2 := i64_mask n 1 (by decide)
theorem mask3 (n : Int) : bits .and .i64 n 3 = n % 4 := i64_mask n 2 (by decide)
theorem mask15 (n : Int) : bits .and .i64 n 15 = n % 16 := i64_mask n 4 (by decide)
theorem mask15k (n : Int) : bits .and .i64 n 32767 = n % 32768 := i64_mask n 15 (by decide)
theorem mask18 (n : Int) : bits .and .i64 n 262143 = n % 262144 := i64_mask n 18 (by decide)
theorem msO_len (wd : Int) (l : List Og) : ∀ i, i ≤ l.length → (msO wd l i).length = i
  | 0, _ => rfl
  | i + 1, h => by
    rw [msO_succ wd l i _ (List.getElem?_eq_getElem (by omega)), List.length_append, msO_len wd l i (by omega)]; rfl
theorem msO_get (wd : Int) (l : List Og) : ∀ i, i ≤ l.length → ∀ k x, k < i → l[k]? = some x → (msO wd l i)[k]? = some (meO wd k x)
  | 0, _, k, x, hk, _ => by omega
  | i + 1, h, k, x, hk, hx => by
    have hl := msO_len wd l i (by omega)
    rw [msO_succ wd l i _ (List.getElem?_eq_getElem (by omega))]
    rcases Nat.lt_or_ge k i with h1 | h1
    · rw [List.getElem?_append_left (by omega)]
      exact msO_get wd l i (by omega) k x h1 hx
    · have : k = i := by omega
      subst this
      rw [List.getElem?_append_right (by omega), hl, Nat.sub_self]
      have e : l[k]'(by omega) = x := by
        rw [List.getElem?_eq_getElem (by omega)] at hx
        exact Option.some.inj hx
      rw [e]; rfl
theorem msO_up (wd : Int) (l : List Og) (i : Nat) (hi : i ≤ l.length) (h12 : i ≤ 1000000) (qs : List Mq) (h : qs.map Mq.m = msO wd l i) : UpQ qs := by
  have hlen : qs.length = i := by
    have := congrArg List.length h
    rw [List.length_map, msO_len wd l i hi] at this; exact this
  have key : ∀ k q, qs[k]? = some q → q.m.id = Idn.nam 1 k := by
    intro k q hq
    have hk := (List.getElem?_eq_some_iff.1 hq).1
    have h1 : (qs.map Mq.m)[k]? = some q.m := by rw [List.getElem?_map, hq]; rfl
    rw [h, msO_get wd l i hi k (l[k]'(by omega)) (by omega) (List.getElem?_eq_getElem (by omega))] at h1
    rw [← Option.some.inj h1]; rfl
  intro k x y hx hy
  have hk := (List.getElem?_eq_some_iff.1 hy).1
  rw [key k x hx, key (k + 1) y hy, Idn.nam_lt 1 k 1 (k + 1) (by decide) (by omega) (by decide) (by omega)]
  exact .inr ⟨rfl, by omega⟩
/-- What Listing says. -/
def LgOut (w : World) (wd : Int) (l : List Og) (e : Ending) (w' : World) : Prop :=
  ∃ lv v8 rs ts, e = .returned (.tuple #[lv, .agg #[.int .i64 5, v8]]) ∧ LstR w' lv 5 rs (ksO l (min l.length 12)) ∧ rs.map Mq.m = msO wd l (min l.length 12) ∧
    Rd w' 9 v8 (min l.length 12) (tcs ts) ∧ ts.map (fun p => p.1.m) = msO wd l (min l.length 12) ∧ ts.map Prod.snd = mkO l (min l.length 12) ∧ ∀ p ∈ ts, MeR w' p.1.m p.1.vf p.1.vs
/-- The box of a block that is being made, step by step. -/
theorem mk_box {W1 w2 : World} (b : Below W1.heap.size W1 w2) (MN MX LV SA D : Int) (nm : List UInt8) :
    Below W1.heap.size W1 (w2.alloc (.cells #[.string (bs nm), .int .i64 MN, .int .i64 0, .int .i64 LV, .int .i64 1, .int .i64 SA, .slice none 0 0, .slice none 0 0] 53)) ∧ Below W1.heap.size W1 (w2.alloc (.cells #[.string (bs nm), .int .i64 MN, .int .i64 MX, .int .i64 LV, .int .i64 1, .int .i64 SA, .slice none 0 0, .slice none 0 0] 53)) ∧ Below W1.heap.size W1 ((w2.alloc (.cells #[.string (bs nm), .int .i64 MN, .int .i64 MX, .int .i64 LV, .int .i64 1, .int .i64 SA, .slice none 0 0, .slice none 0 0] 53)).alloc (.cells #[.string ⟨#[99, 104, 117, 110, 107, 115]⟩, .int .i64 D, .int .u32 0, .string ⟨#[105, 110, 100, 101, 120]⟩, .int .i64 9, .int .u32 0] 57)) ∧ Below W1.heap.size W1 ((w2.alloc (.cells #[.string (bs nm), .int .i64 MN, .int .i64 MX, .int .i64 LV, .int .i64 1, .int .i64 SA, .slice (some ⟨w2.heap.size + 1, 0, none⟩) 2 2, .slice none 0 0] 53)).alloc (.cells #[.string ⟨#[99, 104, 117, 110, 107, 115]⟩, .int .i64 D, .int .u32 0, .string ⟨#[105, 110, 100, 101, 120]⟩, .int .i64 9, .int .u32 0] 57)) ∧
      (w2.alloc (.cells #[.string (bs nm), .int .i64 MN, .int .i64 0, .int .i64 LV, .int .i64 1, .int .i64 SA, .slice none 0 0, .slice none 0 0] 53)).cell? ⟨w2.heap.size, 1, none⟩ = some (.int .i64 MN) ∧ (w2.alloc (.cells #[.string (bs nm), .int .i64 MN, .int .i64 0, .int .i64 LV, .int .i64 1, .int .i64 SA, .slice none 0 0, .slice none 0 0] 53)).cell? ⟨w2.heap.size, 2, none⟩ = some (.int .i64 0) ∧ (w2.alloc (.cells #[.string (bs nm), .int .i64 MN, .int .i64 0, .int .i64 LV, .int .i64 1, .int .i64 SA, .slice none 0 0, .slice none 0 0] 53)).frozen? ⟨w2.heap.size, 2, none⟩ = false ∧
      (((w2.alloc (.cells #[.string (bs nm), .int .i64 MN, .int .i64 MX, .int .i64 LV, .int .i64 1, .int .i64 SA, .slice none 0 0, .slice none 0 0] 53)).alloc (.cells #[.string ⟨#[99, 104, 117, 110, 107, 115]⟩, .int .i64 D, .int .u32 0, .string ⟨#[105, 110, 100, 101, 120]⟩, .int .i64 9, .int .u32 0] 57)).cell? ⟨w2.heap.size, 6, none⟩ = some (.slice none 0 0) ∧ ((w2.alloc (.cells #[.string (bs nm), .int .i64 MN, .int .i64 MX, .int .i64 LV, .int .i64 1, .int .i64 SA, .slice none 0 0, .slice none 0 0] 53)).alloc (.cells #[.string ⟨#[99, 104, 117, 110, 107, 115]⟩, .int .i64 D, .int .u32 0, .string ⟨#[105, 110, 100, 101, 120]⟩, .int .i64 9, .int .u32 0] 57)).frozen? ⟨w2.heap.size, 6, none⟩ = false) ∧
      ((w2.alloc (.cells #[.string (bs nm), .int .i64 MN, .int .i64 MX, .int .i64 LV, .int .i64 1, .int .i64 SA, .slice (some ⟨w2.heap.size + 1, 0, none⟩) 2 2, .slice none 0 0] 53)).alloc (.cells #[.string ⟨#[99, 104, 117, 110, 107, 115]⟩, .int .i64 D, .int .u32 0, .string ⟨#[105, 110, 100, 101, 120]⟩, .int .i64 9, .int .u32 0] 57)).heap[w2.heap.size]? = some (.cells #[.string (bs nm), .int .i64 MN, .int .i64 MX, .int .i64 LV, .int .i64 1, .int .i64 SA, .slice (some ⟨w2.heap.size + 1, 0, none⟩) 2 2, .slice none 0 0] 53 (0, 0)) ∧
      ((w2.alloc (.cells #[.string (bs nm), .int .i64 MN, .int .i64 MX, .int .i64 LV, .int .i64 1, .int .i64 SA, .slice (some ⟨w2.heap.size + 1, 0, none⟩) 2 2, .slice none 0 0] 53)).alloc (.cells #[.string ⟨#[99, 104, 117, 110, 107, 115]⟩, .int .i64 D, .int .u32 0, .string ⟨#[105, 110, 100, 101, 120]⟩, .int .i64 9, .int .u32 0] 57)).heap[w2.heap.size + 1]? = some (.cells #[.string ⟨#[99, 104, 117, 110, 107, 115]⟩, .int .i64 D, .int .u32 0, .string ⟨#[105, 110, 100, 101, 120]⟩, .int .i64 9, .int .u32 0] 57) := by
  have z := b.size
  have hA := heap_alloc_new w2 (.cells #[.string (bs nm), .int .i64 MN, .int .i64 0, .int .i64 LV, .int .i64 1, .int .i64 SA, .slice none 0 0, .slice none 0 0] 53)
  have sA : (w2.alloc (.cells #[.string (bs nm), .int .i64 MN, .int .i64 0, .int .i64 LV, .int .i64 1, .int .i64 SA, .slice none 0 0, .slice none 0 0] 53)).heap.size = w2.heap.size + 1 := by simp
  have bA : Below W1.heap.size W1 (w2.alloc (.cells #[.string (bs nm), .int .i64 MN, .int .i64 0, .int .i64 LV, .int .i64 1, .int .i64 SA, .slice none 0 0, .slice none 0 0] 53)) := b.alloc z _
  have bB : Below W1.heap.size W1 (w2.alloc (.cells #[.string (bs nm), .int .i64 MN, .int .i64 MX, .int .i64 LV, .int .i64 1, .int .i64 SA, .slice none 0 0, .slice none 0 0] 53)) := b.alloc z _
  have hB := heap_alloc_new w2 (.cells #[.string (bs nm), .int .i64 MN, .int .i64 MX, .int .i64 LV, .int .i64 1, .int .i64 SA, .slice none 0 0, .slice none 0 0] 53)
  have sB : (w2.alloc (.cells #[.string (bs nm), .int .i64 MN, .int .i64 MX, .int .i64 LV, .int .i64 1, .int .i64 SA, .slice none 0 0, .slice none 0 0] 53)).heap.size = w2.heap.size + 1 := by simp
  have bC : Below W1.heap.size W1 ((w2.alloc (.cells #[.string (bs nm), .int .i64 MN, .int .i64 MX, .int .i64 LV, .int .i64 1, .int .i64 SA, .slice none 0 0, .slice none 0 0] 53)).alloc (.cells #[.string ⟨#[99, 104, 117, 110, 107, 115]⟩, .int .i64 D, .int .u32 0, .string ⟨#[105, 110, 100, 101, 120]⟩, .int .i64 9, .int .u32 0] 57)) := bB.alloc (by omega) _
  have hC := (Below.heap_alloc (w2.alloc (.cells #[.string (bs nm), .int .i64 MN, .int .i64 MX, .int .i64 LV, .int .i64 1, .int .i64 SA, .slice none 0 0, .slice none 0 0] 53)) (.cells #[.string ⟨#[99, 104, 117, 110, 107, 115]⟩, .int .i64 D, .int .u32 0, .string ⟨#[105, 110, 100, 101, 120]⟩, .int .i64 9, .int .u32 0] 57) w2.heap.size (by omega)).trans hB
  have sM : (w2.alloc (.cells #[.string (bs nm), .int .i64 MN, .int .i64 MX, .int .i64 LV, .int .i64 1, .int .i64 SA, .slice (some ⟨w2.heap.size + 1, 0, none⟩) 2 2, .slice none 0 0] 53)).heap.size = w2.heap.size + 1 := by simp
  have hD := (Below.heap_alloc (w2.alloc (.cells #[.string (bs nm), .int .i64 MN, .int .i64 MX, .int .i64 LV, .int .i64 1, .int .i64 SA, .slice (some ⟨w2.heap.size + 1, 0, none⟩) 2 2, .slice none 0 0] 53)) (.cells #[.string ⟨#[99, 104, 117, 110, 107, 115]⟩, .int .i64 D, .int .u32 0, .string ⟨#[105, 110, 100, 101, 120]⟩, .int .i64 9, .int .u32 0] 57) w2.heap.size (by omega)).trans (heap_alloc_new w2 (.cells #[.string (bs nm), .int .i64 MN, .int .i64 MX, .int .i64 LV, .int .i64 1, .int .i64 SA, .slice (some ⟨w2.heap.size + 1, 0, none⟩) 2 2, .slice none 0 0] 53))
  have hF := heap_alloc_new (w2.alloc (.cells #[.string (bs nm), .int .i64 MN, .int .i64 MX, .int .i64 LV, .int .i64 1, .int .i64 SA, .slice (some ⟨w2.heap.size + 1, 0, none⟩) 2 2, .slice none 0 0] 53)) (.cells #[.string ⟨#[99, 104, 117, 110, 107, 115]⟩, .int .i64 D, .int .u32 0, .string ⟨#[105, 110, 100, 101, 120]⟩, .int .i64 9, .int .u32 0] 57)
  rw [sM] at hF
  exact ⟨bA, bB, bC, (b.alloc z _).alloc (by omega) _, Lib.cell_of_heap hA 1, Lib.cell_of_heap hA 2, Lib.frozen_of_heap hA 2, ⟨Lib.cell_of_heap hC 6, Lib.frozen_of_heap hC 6⟩, hD, hF⟩
/-- The boxes of a block while its sources are named. -/
structure SrL (W0 W : World) (X : Obj) (mb : Nat) (nm : List UInt8) (MN MX LV SA D so : Int) (k n : Nat) (v7 : Value) : Prop where
  xb : W.heap[W0.heap.size]? = some X
  m : W.heap[mb]? = some (.cells #[.string (bs nm), .int .i64 MN, .int .i64 MX, .int .i64 LV, .int .i64 1, .int .i64 SA, .slice (some ⟨mb + 1, 0, none⟩) 2 2, v7] 53 (0, 0))
  f : W.heap[mb + 1]? = some (.cells #[.string ⟨#[99, 104, 117, 110, 107, 115]⟩, .int .i64 D, .int .u32 0, .string ⟨#[105, 110, 100, 101, 120]⟩, .int .i64 9, .int .u32 0] 57)
  s7 : Sl W (mb + 2) 1 v7 n (sc (srcN so k))
  below : Below W0.heap.size W0 W
  big : mb + 2 ≤ W.heap.size
  lo : W0.heap.size < mb
theorem srcN_len (s : Int) (k : Nat) : (srcN s k).length ≤ k := by
  unfold srcN
  rw [List.length_map]
  exact Nat.le_trans (List.length_filter_le _ _) (by simp)
/-- What the boxes hold, whatever the sources' list. -/
structure SrB (W0 W : World) (X : Obj) (mb : Nat) (nm : List UInt8) (MN MX LV SA D : Int) (v7 : Value) (n : Nat) (xs : List Value) : Prop where
  xb : W.heap[W0.heap.size]? = some X
  m : W.heap[mb]? = some (.cells #[.string (bs nm), .int .i64 MN, .int .i64 MX, .int .i64 LV, .int .i64 1, .int .i64 SA, .slice (some ⟨mb + 1, 0, none⟩) 2 2, v7] 53 (0, 0))
  f : W.heap[mb + 1]? = some (.cells #[.string ⟨#[99, 104, 117, 110, 107, 115]⟩, .int .i64 D, .int .u32 0, .string ⟨#[105, 110, 100, 101, 120]⟩, .int .i64 9, .int .u32 0] 57)
  s7 : Sl W (mb + 2) 1 v7 n xs
  below : Below W0.heap.size W0 W
  big : mb + 2 ≤ W.heap.size
  lo : W0.heap.size < mb
theorem src_push {W0 W W1 w5 : World} {X : Obj} {mb : Nat} {nm : List UInt8} {MN MX LV SA D so : Int} {k n : Nat} {v7 v5 : Value} {new : List Value} (h : SrL W0 W X mb nm MN MX LV SA D so k n v7) (b : Below W.heap.size W W1) (x : Ext (mb + 2) 1 W1 v7 n (sc (srcN so k)) w5 v5 (n + 1) (sc (srcN so k) ++ new)) :
    w5.heap[mb]? = some (.cells #[.string (bs nm), .int .i64 MN, .int .i64 MX, .int .i64 LV, .int .i64 1, .int .i64 SA, .slice (some ⟨mb + 1, 0, none⟩) 2 2, v7] 53 (0, 0)) ∧ SrB W0 (w5.setCell ⟨mb, 7, none⟩ v5) X mb nm MN MX LV SA D v5 (n + 1) (sc (srcN so k) ++ new) := by
  have hb := h.big
  have hl := h.lo
  have z1 := b.size
  have bb := x.below (B := mb + 2) (Nat.le_refl _) (by omega)
  have e1 := (bb.block mb (by omega)).trans ((b.block mb (by omega)).trans h.m)
  refine ⟨e1, (Below.heap_setCell w5 ⟨mb, 7, none⟩ v5 W0.heap.size (by simp only; omega)).trans ((bb.block _ (by omega)).trans ((b.block _ (by omega)).trans h.xb)), heap_setCell_same w5 mb 7 _ _ v5 e1, (Below.heap_setCell w5 ⟨mb, 7, none⟩ v5 (mb + 1) (by simp only; omega)).trans ((bb.block _ (by omega)).trans ((b.block _ (by omega)).trans h.f)), sl_else x.now ⟨mb, 7, none⟩ v5 (by simp only; omega), ?_, by simp only [World.size_setCell]; have := bb.size; omega, hl⟩
  exact ((h.below.trans (b.mono (by have := h.below.size; omega))).trans (bb.mono (by omega))).setCell (p := ⟨mb, 7, none⟩) (by simp only; omega) _
theorem lg_end {w W0 w2 w3 : World} {wd : Int} {l : List Og} {i N : Nat} {v6 v8 ms2 : Value} {mp2 : Nat} {qs rs : List Mq} {ts : List (Mq × Int)} (h : LgI w W0 wd l i v6 v8 qs ts) (hmin : i = min l.length 12) (hN : N = l.length) (h12 : i ≤ 12) (b2 : Below W0.heap.size W0 w2) (hrm : rs.map Mq.m = qs.map Mq.m) (hms : MsR w2 ms2 rs) (hmk : MarkM mp2 (ksO l i) w2)
    (hlo : LstLo W0.heap.size (.agg #[.int .i64 5, ms2, .map (some mp2)]) rs) (t : Turn (fun k => k = w.heap.size ∨ k = w.heap.size + 1) w2 w3) :
    LgOut w wd l (.returned (.tuple #[.agg #[.int .i64 5, ms2, .map (some mp2)], .agg #[.int .i64 5, v8]])) w3 ∧ Below w.heap.size w w3 := by
  subst hmin
  obtain ⟨_, _, _, e, h1, h2, h3⟩ := hlo
  injection e with e
  injection e with e
  simp only [List.cons.injEq, Value.map.injEq, Option.some.injEq, and_true] at e
  obtain ⟨-, rfl, rfl⟩ := e
  have z0 := h.big
  have hni : ∀ k, W0.heap.size ≤ k → ¬ (k = w.heap.size ∨ k = w.heap.size + 1) := fun k hk e => by omega
  refine ⟨⟨_, v8, rs, ts, rfl, ⟨ms2, _, rfl, hms.turnN t (fun k hk => hni k (h1 k hk)) (fun q hq => ⟨fun k hk => hni k ((h3 q hq).1 k hk), fun k hk => hni k ((h3 q hq).2 k hk)⟩), hmk.turn t (hni _ h2)⟩, hrm.trans h.ms, ?_, h.tm, h.tk, fun p hp => ?_⟩, ?_⟩
  · exact ((Rd.of_sl h.sl8).on b2).turnN t (fun _ k hk e => by have := (h.sl8.lt k hk).1; omega)
  · have hp8 := h.ok8 p hp
    exact (hp8.1.on b2).turnN t (fun k hk e => by have := (hp8.2.1 k hk).1; omega) (fun k hk e => by have := (hp8.2.2 k hk).1; omega)
  · exact (h.below.trans (b2.mono (by omega))).trans (t.below (B := w.heap.size) (by have := b2.size; omega) (fun k hk => by omega))
theorem Sl.litAt (w : World) (b : Nat) (hb' : w.heap.size = b) (base size n : Nat) (cs : Array Value) (e : TypeId) (hb : base ≤ w.heap.size) (hm : n ≤ maxLen) (hs : cs.size = n * size) : Sl (w.alloc (.cells cs e)) base size (.slice (some ⟨b, 0, none⟩) n n) n cs.toList := by
  subst hb'
  exact Sl.lit w base size n cs e hb hm hs
theorem lg_start (w : World) (wd : Int) (l : List Og) : LgI w (((((w.alloc (.cells #[.int .i64 0, .slice none 0 0, .map none] 26)).alloc (.cells #[.int .i64 0, .slice none 0 0] 29)).alloc (.cells #[] 53)).alloc (.map #[] 0)).alloc (.cells #[] 70)) wd l 0 (.slice (some ⟨w.heap.size + 1 + 1, 0, none⟩) 0 0) (.slice (some ⟨w.heap.size + 1 + 1 + 1 + 1, 0, none⟩) 0 0) [] [] := by
  obtain ⟨X, hX⟩ : ∃ X : Obj, X = .cells #[.int .i64 0, .slice none 0 0, .map none] 26 := ⟨_, rfl⟩
  obtain ⟨Y, hY⟩ : ∃ Y : Obj, Y = .cells #[.int .i64 0, .slice none 0 0] 29 := ⟨_, rfl⟩
  rw [← hX, ← hY]
  have s1 : (w.alloc X).heap.size = w.heap.size + 1 := by simp
  have s2 : ((w.alloc X).alloc Y).heap.size = w.heap.size + 1 + 1 := by simp
  have l6 := Sl.litAt ((w.alloc X).alloc Y) (w.heap.size + 1 + 1) s2 (w.heap.size + 2) 8 0 #[] 53 (by omega) (by decide) rfl
  obtain ⟨E6, hE6⟩ : ∃ E : Obj, E = .cells #[] 53 := ⟨_, rfl⟩
  rw [← hE6] at l6 ⊢
  have s3 : (((w.alloc X).alloc Y).alloc E6).heap.size = w.heap.size + 1 + 1 + 1 := by simp
  have m3 := heap_alloc_new (((w.alloc X).alloc Y).alloc E6) (.map #[] 0)
  rw [s3] at m3
  obtain ⟨MP, hMP⟩ : ∃ E : Obj, E = .map #[] 0 := ⟨_, rfl⟩
  rw [← hMP] at m3 ⊢
  have s4 : ((((w.alloc X).alloc Y).alloc E6).alloc MP).heap.size = w.heap.size + 1 + 1 + 1 + 1 := by simp
  have l8 := Sl.litAt ((((w.alloc X).alloc Y).alloc E6).alloc MP) (w.heap.size + 1 + 1 + 1 + 1) s4 (w.heap.size + 2) 9 0 #[] 70 (by omega) (by decide) rfl
  obtain ⟨E8, hE8⟩ : ∃ E : Obj, E = .cells #[] 70 := ⟨_, rfl⟩
  rw [← hE8] at l8 ⊢
  refine ⟨(l6.alloc MP).alloc E8, l8, rfl, rfl, rfl, fun k hk e => ?_, fun e => ?_, fun e => ?_, MarkM.new ?_, by simp, by simp, ?_, ?_, ?_, by simp⟩
  · have h1 := Option.some.inj (show some (w.heap.size + 1 + 1) = some k from hk)
    have h2 := Option.some.inj (show some (w.heap.size + 1 + 1 + 1 + 1) = some k from e)
    omega
  · have h2 := Option.some.inj (show some (w.heap.size + 1 + 1) = some (w.heap.size + 3) from e)
    omega
  · have h2 := Option.some.inj (show some (w.heap.size + 1 + 1 + 1 + 1) = some (w.heap.size + 3) from e)
    omega
  · show (((((w.alloc X).alloc Y).alloc E6).alloc MP).alloc E8).heap[w.heap.size + 1 + 1 + 1]? = _
    rw [Below.heap_alloc ((((w.alloc X).alloc Y).alloc E6).alloc MP) E8 _ (by omega), m3, hMP]
    rfl
  · rw [Below.heap_alloc ((((w.alloc X).alloc Y).alloc E6).alloc MP) E8 _ (by omega), Below.heap_alloc (((w.alloc X).alloc Y).alloc E6) MP _ (by omega), Below.heap_alloc ((w.alloc X).alloc Y) E6 _ (by omega), Below.heap_alloc (w.alloc X) Y _ (by omega), heap_alloc_new, hX]
  · have h1 := heap_alloc_new (w.alloc X) Y
    rw [s1] at h1
    rw [Below.heap_alloc ((((w.alloc X).alloc Y).alloc E6).alloc MP) E8 _ (by omega), Below.heap_alloc (((w.alloc X).alloc Y).alloc E6) MP _ (by omega), Below.heap_alloc ((w.alloc X).alloc Y) E6 _ (by omega), h1, hY]
  · exact (((((Below.refl _ _).alloc (Nat.le_refl _) X).alloc (by omega) Y).alloc (by omega) E6).alloc (by omega) MP).alloc (by omega) E8
theorem me_made {W : World} {mb n k7 : Nat} {a7 : Option Addr} {nm : List UInt8} {MN MX LV SA D : Int} {src : List (List UInt8)} (hf : W.heap[mb + 1]? = some (.cells #[.string ⟨#[99, 104, 117, 110, 107, 115]⟩, .int .i64 D, .int .u32 0, .string ⟨#[105, 110, 100, 101, 120]⟩, .int .i64 9, .int .u32 0] 57)) (hs : Sl W (mb + 2) 1 (.slice a7 n k7) n (sc src)) (hn : n = src.length) (hm : n ≤ 1000000) (hb : mb + 2 ≤ W.heap.size) :
    MeR W ⟨nm, MN, MX, LV, 1, SA, [⟨[99, 104, 117, 110, 107, 115], D, 0⟩, ⟨[105, 110, 100, 101, 120], 9, 0⟩], src⟩ (.slice (some ⟨mb + 1, 0, none⟩) 2 2) (.slice a7 n k7) := by
  refine ⟨⟨rfl, some ⟨mb + 1, 0, none⟩, 2, mb + 1, 0, rfl, fun _ => ⟨rfl, by omega⟩, fun j hj => ?_⟩, by have h9 := Rd.of_sl hs; rw [hn] at h9 ⊢; exact h9, by simp, by rw [← hn]; exact hm⟩
  have h1 := Lib.cell_of_heap hf j
  rw [Nat.zero_add, h1]
  have : j = 0 ∨ j = 1 ∨ j = 2 ∨ j = 3 ∨ j = 4 ∨ j = 5 := by simp at hj; omega
  rcases this with rfl | rfl | rfl | rfl | rfl | rfl <;> rfl
theorem cells9 {W : World} {b : Nat} {x0 x1 x2 x3 x4 x5 x6 x7 x8 : Value} {T : TypeId} {f : Nat × Nat} (h : W.heap[b]? = some (.cells #[x0, x1, x2, x3, x4, x5, x6, x7, x8] T f)) : W.cell? ⟨b, 0, none⟩ = some x0 ∧ W.cell? ⟨b, 1, none⟩ = some x1 ∧ W.cell? ⟨b, 2, none⟩ = some x2 ∧ W.cell? ⟨b, 3, none⟩ = some x3 ∧ W.cell? ⟨b, 4, none⟩ = some x4 ∧ W.cell? ⟨b, 5, none⟩ = some x5 ∧ W.cell? ⟨b, 6, none⟩ = some x6 ∧ W.cell? ⟨b, 7, none⟩ = some x7 ∧ W.cell? ⟨b, 8, none⟩ = some x8 :=
  ⟨Lib.cell_of_heap h 0, Lib.cell_of_heap h 1, Lib.cell_of_heap h 2, Lib.cell_of_heap h 3, Lib.cell_of_heap h 4, Lib.cell_of_heap h 5, Lib.cell_of_heap h 6, Lib.cell_of_heap h 7, Lib.cell_of_heap h 8⟩
/-- What is known once a block's boxes are made, and its mark is set. -/
structure LgC (w W0 W5 w6 W8 : World) (wd : Int) (l : List Og) (i mb : Nat) (v6 v8 : Value) (qs : List Mq) (ts : List (Mq × Int)) (MO BO : Obj) : Prop where
  sl6 : Sl W8 (w.heap.size + 2) 8 v6 i (msc qs)
  sl8 : Sl W8 (w.heap.size + 2) 9 v8 i (tcs ts)
  m : W8.heap[mb]? = some MO
  b : W8.heap[w6.heap.size]? = some BO
  t : Turn (fun k => k = w.heap.size + 3) W0 W8
  tb : Turn (fun k => k = w.heap.size + 3) w6 W8
  mks : MarkM (w.heap.size + 3) (ksO l (i + 1)) W8
  big : w.heap.size + 5 ≤ W8.heap.size
  o6 : ∀ k, v6.ownBlock = some k → k < W0.heap.size
  o8 : ∀ k, v8.ownBlock = some k → k < W0.heap.size
  ne : ∀ k, v6.ownBlock = some k → v8.ownBlock ≠ some k
  lo : W0.heap.size < mb ∧ mb < w6.heap.size ∧ w6.heap.size < W8.heap.size
theorem lg_c8 {w W0 W5 w6 W8 : World} {wd : Int} {l : List Og} {i mb : Nat} {v6 v8 : Value} {qs : List Mq} {ts : List (Mq × Int)} {MO BO : Obj} (h : LgI w W0 wd l i v6 v8 qs ts) (b5 : Below W0.heap.size W0 W5) (b6 : Below W5.heap.size W5 w6) (hm : w6.heap[mb]? = some MO) (hl : W0.heap.size < mb) (hb : mb < w6.heap.size)
    (t8 : Turn (fun k => k = w.heap.size + 3) (w6.alloc BO) W8) (hmk : MarkM (w.heap.size + 3) (ksO l (i + 1)) W8) : LgC w W0 W5 w6 W8 wd l i mb v6 v8 qs ts MO BO := by
  have z0 := h.big
  have z5 := b5.size
  have z6 := b6.size
  have s7 : (w6.alloc BO).heap.size = w6.heap.size + 1 := by simp
  have z8 := t8.size
  have b7 : Below W0.heap.size W0 (w6.alloc BO) := (b5.trans (b6.mono z5)).alloc (by omega) _
  have l6 := fun k hk => h.sl6.lt k hk
  have l8 := fun k hk => h.sl8.lt k hk
  have tw : Turn (fun k => k = w.heap.size + 3) w6 W8 := ((Turn.refl _ _).alloc BO).trans t8
  refine ⟨(h.sl6.on b7).turn t8 (fun k hk e => h.n6 (e ▸ hk)), (h.sl8.on b7).turn t8 (fun k hk e => h.n8 (e ▸ hk)), (tw.block mb hb (by omega)).trans hm, (t8.block w6.heap.size (by omega) (by omega)).trans (heap_alloc_new w6 BO), (Turn.of_below b7).trans t8, tw, hmk, by omega, fun k hk => (l6 k hk).2, fun k hk => (l8 k hk).2, h.ne, hl, hb, by omega⟩
theorem lg_c8f {w W0 W5 w6 : World} {wd : Int} {l : List Og} {i mb : Nat} {v6 v8 : Value} {qs : List Mq} {ts : List (Mq × Int)} {MO : Obj} {fr wi sz so : Int} (h : LgI w W0 wd l i v6 v8 qs ts) (hx : l[i]? = some ⟨fr, wi, sz, so, false⟩) (b5 : Below W0.heap.size W0 W5) (b6 : Below W5.heap.size W5 w6) (hm : w6.heap[mb]? = some MO) (hl : W0.heap.size < mb) (hb : mb < w6.heap.size) (BO : Obj) : LgC w W0 W5 w6 (w6.alloc BO) wd l i mb v6 v8 qs ts MO BO := by
  refine lg_c8 h b5 b6 hm hl hb (Turn.refl _ _) ?_
  rw [ksO_succ l i _ hx]
  simp only [Bool.false_eq_true, if_false, List.append_nil]
  exact h.mks.turn (S := fun _ => False) (Turn.of_below ((b5.trans (b6.mono b5.size)).alloc (by have := b5.size; have := b6.size; omega) _)) id
theorem lg_c8t {w W0 W5 w6 : World} {wd : Int} {l : List Og} {i mb : Nat} {v6 v8 : Value} {qs : List Mq} {ts : List (Mq × Int)} {MO : Obj} {fr wi sz so : Int} {nm : List UInt8} (h : LgI w W0 wd l i v6 v8 qs ts) (hx : l[i]? = some ⟨fr, wi, sz, so, true⟩) (hnm : nm = Idn.nam 1 i) (b5 : Below W0.heap.size W0 W5) (b6 : Below W5.heap.size W5 w6) (hm : w6.heap[mb]? = some MO) (hl : W0.heap.size < mb) (hb : mb < w6.heap.size) (BO : Obj) :
    ∃ W8, (Instr.mapUpdate 24 (.map (some (w.heap.size + 1 + 1 + 1))) (.string (bs nm)) (.int .i64 3)).run Try.prog (w6.alloc BO) = .ok () W8 ∧ LgC w W0 W5 w6 W8 wd l i mb v6 v8 qs ts MO BO := by
  obtain ⟨W8, h1, h2, h3⟩ := (h.mks.turn (S := fun _ => False) (Turn.of_below ((b5.trans (b6.mono b5.size)).alloc (by have := b5.size; have := b6.size; omega) BO)) id).store nm 3
  refine ⟨W8, h1, lg_c8 h b5 b6 hm hl hb h2 ?_⟩
  rw [ksO_succ l i _ hx, ← hnm]
  exact h3
theorem LgC.after {w W0 W5 w6 W8 w10 : World} {wd : Int} {l : List Og} {i mb : Nat} {v6 v8 v10 : Value} {qs : List Mq} {ts : List (Mq × Int)} {MO BO o1 : Obj} {n' : Nat} {xs : List Value} (h : LgC w W0 W5 w6 W8 wd l i mb v6 v8 qs ts MO BO) (x : Ext (w.heap.size + 2) 8 (W8.alloc o1) v6 i (msc qs) w10 v10 n' xs) :
    w10.heap[w6.heap.size]? = some BO ∧ Sl w10 (w.heap.size + 2) 9 v8 i (tcs ts) ∧ w.heap.size + 2 ≤ w10.heap.size := by
  have hl := h.lo
  have s9 : (W8.alloc o1).heap.size = W8.heap.size + 1 := by simp
  have z := x.grown.size
  refine ⟨(x.grown.block w6.heap.size (by omega) (fun e => by have := h.o6 _ e.symm; omega)).trans ((Below.heap_alloc W8 o1 w6.heap.size (by omega)).trans h.b), (h.sl8.alloc o1).kept x.grown ?_, by have := h.big; omega⟩
  cases hv : v8.ownBlock with
  | none => exact .inl rfl
  | some k => exact .inr (fun e => h.ne k e.symm hv)
theorem told_oneCell (nm : List UInt8) (x0 x1 x2 x3 x4 mk : Int) (af a7 : Option Addr) (nf kf n k7 : Nat) : ∀ u ∈ #[Value.string (bs nm), .int .i64 x0, .int .i64 x1, .int .i64 x2, .int .i64 x3, .int .i64 x4, .slice af nf kf, .slice a7 n k7, .int .i64 mk].toList, u.oneCell' = true := by
  intro u hu
  simp only [List.mem_cons, List.not_mem_nil, or_false] at hu
  rcases hu with rfl | rfl | rfl | rfl | rfl | rfl | rfl | rfl | rfl <;> rfl
theorem lg_round {w W0 W5 w6 W8 w10 w12 : World} {wd : Int} {l : List Og} {i mb n : Nat} {v6 v8 v6' v8' : Value} {qs : List Mq} {ts : List (Mq × Int)} {MO BO o1 o2 : Obj} {x : Og} {me : Mt.Me} {q tq : Mq} (h : LgI w W0 wd l i v6 v8 qs ts) (hx : l[i]? = some x) (hme : me = meO wd i x) (hq : q.m = me) (htq : tq.m = me) (hvs : tq.vs = q.vs)
    (c : LgC w W0 W5 w6 W8 wd l i mb v6 v8 qs ts MO BO) (sf : Sl w6 W5.heap.size 3 tq.vf me.files.length (flc me.files)) (b6 : Below W5.heap.size W5 w6) (s7 : Sl W5 (mb + 2) 1 q.vs n (sc me.src)) (hvf : ∀ k, q.vf.ownBlock = some k → k = mb + 1) (hb5 : mb + 2 ≤ W5.heap.size) (b5 : Below W0.heap.size W0 W5) (hm : MeR W5 q.m q.vf q.vs)
    (x10 : Ext (w.heap.size + 2) 8 (W8.alloc o1) v6 i (msc qs) w10 v6' (i + 1) (msc qs ++ mqc q)) (x12 : Ext (w.heap.size + 2) 9 (w10.alloc o2) v8 i (tcs ts) w12 v8' (i + 1) (tcs ts ++ (mqc tq ++ [.int .i64 (if x.md then 3 else -1)]))) :
    LgI w w12 wd l (i + 1) v6' v8' (qs ++ [q]) (ts ++ [(tq, if x.md then 3 else -1)]) := by
  have hl := c.lo
  have z5 := b5.size
  have z6 := b6.size
  have z0 := h.big
  have l7 := fun k hk => s7.lt k hk
  have lf := fun k hk => sf.lt k hk
  have t58 : Turn (fun k => k = w.heap.size + 3) W5 W8 := (Turn.of_below b6).trans c.tb
  have hq8 : MeR W8 q.m q.vf q.vs := hm.turnN t58 (fun k hk e => by have := hvf k hk; omega) (fun k hk e => by have := (l7 k hk).1; omega)
  refine h.push x hx c.t c.mks q tq (hq.trans hme) (htq.trans hme) hq8 ⟨?_, ?_, ?_, ?_⟩ ⟨fun k hk => by have := hvf k hk; omega, fun k hk => by have := l7 k hk; omega⟩ ⟨fun k hk => by have := lf k hk; omega, fun k hk => by rw [hvs] at hk; have := l7 k hk; omega⟩ x10 x12
  · rw [htq]
    exact (Rd.of_sl sf).turnN c.tb (fun _ k hk e => by have := (lf k hk).1; omega)
  · rw [htq, hvs, ← hq]; exact hq8.2.1
  · rw [htq, ← hq]; exact hq8.2.2.1
  · rw [htq, ← hq]; exact hq8.2.2.2
set_option maxHeartbeats 40000000 in
set_option maxRecDepth 100000 in
theorem listing20_any (v : Value) (l : List Og) (wd : Int) (w : World) (h : Rd w 5 v l.length (ogc l)) (hw : 1 ≤ wd ∧ wd ≤ 1000) :
    Calls Try.prog 7 #[v, .int .i64 wd] w fun e w' => LgOut w wd l e w' ∧ Below w.heap.size w w' := by
  obtain ⟨i0, hi, hz0, hz1, hz2⟩ := info_parts zc_met
  have Hz := Lib.hid hz0; have Hs := Lib.hid hz1; have Hb := Lib.hid hz2; have Hi := Lib.hid hi
  clear hz0 hz1 hz2 hi
  obtain ⟨i1, hi, hz0, hz1, hz2⟩ := info_parts zc_strq
  have Jz := Lib.hid hz0; have Js := Lib.hid hz1; have Jb := Lib.hid hz2; have Ji := Lib.hid hi
  clear hz0 hz1 hz2 hi
  obtain ⟨i2, hi, hz0, hz1, hz2⟩ := info_parts zc_blk
  have Kz := Lib.hid hz0; have Ks := Lib.hid hz1; have Kb := Lib.hid hz2; have Ki := Lib.hid hi
  clear hz0 hz1 hz2 hi
  have hmm := @run_makeMap Try.prog
  obtain ⟨_, ad, cap, g, off, rfl, hg, hc⟩ := h
  have HQ := Lib.hid (fun W (bb : Below w.heap.size w W) i x (hx : l[i]? = some x) (h0 : 0 < l.length) => show W.cell? ⟨g, off + i * 5, none⟩ = some (.int .i64 x.fr) ∧ W.cell? ⟨g, off + i * 5 + 1, none⟩ = some (.int .i64 x.wi) ∧ W.cell? ⟨g, off + i * 5 + 2, none⟩ = some (.int .i64 x.sz) ∧ W.cell? ⟨g, off + i * 5 + 3, none⟩ = some (.int .i64 x.so) ∧ W.cell? ⟨g, off + i * 5 + 4, none⟩ = some (.bool x.md) from by
    have hi : i < l.length := (List.getElem?_eq_some_iff.1 hx).1
    have k := fun j (hj : j < 5) => ((bb.cell (p := ⟨g, off + (i * 5 + j), none⟩) (hg h0).2).trans (hc (i * 5 + j) (by omega))).trans (ogc_at l i x hx j hj)
    have k0 := k 0 (by decide)
    rw [Nat.add_zero] at k0
    have k1 := k 1 (by decide); have k2 := k 2 (by decide); have k3 := k 3 (by decide); have k4 := k 4 (by decide)
    rw [← Nat.add_assoc] at k1 k2 k3 k4
    exact ⟨k0, k1, k2, k3, k4⟩)
  have HG := Lib.hid hg
  clear hg hc
  obtain ⟨N, hN⟩ : ∃ N, N = l.length := ⟨_, rfl⟩
  have HN := Lib.hid hN
  rw [← hN] at HG ⊢
  clear hN
  have T0 := Lib.hid (show LgI w (((((w.alloc (.cells #[.int .i64 0, .slice none 0 0, .map none] 26)).alloc (.cells #[.int .i64 0, .slice none 0 0] 29)).alloc (.cells #[] 53)).alloc (.map #[] 0)).alloc (.cells #[] 70)) wd l 0 (.slice (some ⟨w.heap.size + 1 + 1, 0, none⟩) 0 0) (.slice (some ⟨w.heap.size + 1 + 1 + 1 + 1, 0, none⟩) 0 0) [] [] from lg_start w wd l)
  go_enter Try.func7, Try.ntmps7
  go_wp2_with fail
  go_loopw [6, 8, 9] (fun v6 v8 i' wr => ∃ (i : Nat) (qs : List Mq) (ts : List (Mq × Int)), i' = .int .i64 i ∧ i ≤ N ∧ i ≤ 12 ∧ LgI w wr wd l i v6 v8 qs ts) (fun _ _ i' _ => N - (RowKit.intOf i').toNat)
  case atStart => exact ⟨0, [], [], rfl, Nat.zero_le _, Nat.zero_le _, T0.out⟩
  case round =>
    clear T0
    obtain ⟨W0, rfl⟩ : ∃ W0, W0 = wr := ⟨_, rfl⟩
    obtain ⟨i, qs, ts, rfl, hi, hi12, td⟩ := hrel
    by_cases hlt : i < N
    · have hil : (i : Int) < N := by omega
      by_cases hlt2 : i < 12
      · have hil2 : (i : Int) < 12 := by omega
        have hil0 : (0 : Int) ≤ i := by omega
        have hiw : IntKind.i64.wrap ((i : Int) + 1) = (i : Int) + 1 := IntWalk.i64_in _ (by omega)
        obtain ⟨rfl, hgl⟩ := HG.out (by omega)
        obtain ⟨x, hx⟩ : ∃ x, l[i]? = some x := ⟨_, List.getElem?_eq_getElem (by have := HN.out; omega)⟩
        obtain ⟨q0, q1, q2, q3, q4⟩ := HQ.out W0 td.below i x hx (by have := HN.out; omega)
        have HX := Lib.hid hx
        obtain ⟨fr, wi, sz, so, md⟩ := x
        simp only at q0 q1 q2 q3 q4
        have MK := Lib.hid (fun W => show Calls Try.prog 18 #[.int .i64 1, .int .i64 (i : Int)] W (fun e w' => e = .returned (.tuple #[.string (bs (Idn.nam 1 i)), .int .i64 0]) ∧ Below W.heap.size W w') from make_ok 1 i W (by decide) (by omega))
        have TD := Lib.hid td
        have hbig := td.big
        obtain ⟨A, hA⟩ : ∃ A, A = fr % 16 := ⟨_, rfl⟩
        obtain ⟨B, hB⟩ : ∃ B, B = wi % 4 := ⟨_, rfl⟩
        obtain ⟨C, hC⟩ : ∃ C, C = sz % 32768 := ⟨_, rfl⟩
        obtain ⟨D, hD⟩ : ∃ D, D = sz % 262144 := ⟨_, rfl⟩
        have hA0 : 0 ≤ A ∧ A < 16 := by omega
        have hB0 : 0 ≤ B ∧ B < 4 := by omega
        have hC0 : 0 ≤ C ∧ C < 32768 := by omega
        have hD0 : 0 ≤ D ∧ D < 262144 := by omega
        have k15 : bits .and .i64 fr 15 = A := (mask15 fr).trans hA.symm
        have k3 : bits .and .i64 wi 3 = B := (mask3 wi).trans hB.symm
        have k15k : bits .and .i64 sz 32767 = C := (mask15k sz).trans hC.symm
        have k18 : bits .and .i64 sz 262143 = D := (mask18 sz).trans hD.symm
        have hmn1 : 0 ≤ A * wd ∧ A * wd ≤ 16 * 1000 := ⟨Int.mul_nonneg hA0.1 (by omega), Int.mul_le_mul (by omega) hw.2 (by omega) (by omega)⟩
        have hml1 : 0 ≤ (1 + B) * wd ∧ (1 + B) * wd ≤ 4 * 1000 := ⟨Int.mul_nonneg (by omega) (by omega), Int.mul_le_mul (by omega) hw.2 (by omega) (by omega)⟩
        obtain ⟨MN, hMN⟩ : ∃ MN, MN = A * wd := ⟨_, rfl⟩
        obtain ⟨ML, hML⟩ : ∃ ML, ML = (1 + B) * wd := ⟨_, rfl⟩
        have w1 : IntKind.i64.wrap (1 + B) = 1 + B := IntWalk.i64_in _ (by omega)
        have w2' : IntKind.i64.wrap (1 + C) = 1 + C := IntWalk.i64_in _ (by omega)
        have w3 : IntKind.i64.wrap (A * wd) = MN := by rw [hMN]; exact IntWalk.i64_in _ (by omega)
        have w4 : IntKind.i64.wrap ((1 + B) * wd) = ML := by rw [hML]; exact IntWalk.i64_in _ (by omega)
        have w5' : IntKind.i64.wrap (MN + ML) = MN + ML := IntWalk.i64_in _ (by omega)
        have HME := Lib.hid (show ∀ s, (⟨Idn.nam 1 i, MN, MN + ML, 1 + B, 1, 1 + C, [⟨[99, 104, 117, 110, 107, 115], D, 0⟩, ⟨[105, 110, 100, 101, 120], 9, 0⟩], s⟩ : Mt.Me) = ⟨Idn.nam 1 i, fr % 16 * wd, fr % 16 * wd + (1 + wi % 4) * wd, 1 + wi % 4, 1, 1 + sz % 32768, [⟨[99, 104, 117, 110, 107, 115], sz % 262144, 0⟩, ⟨[105, 110, 100, 101, 120], 9, 0⟩], s⟩ from by
          intro s
          rw [hMN, hML, hA, hB, hC, hD])
        have NM := Lib.hid (show Idn.nam 1 i = Idn.nam 1 i from rfl)
        obtain ⟨nm, hnm⟩ : ∃ nm, nm = Idn.nam 1 i := ⟨_, rfl⟩
        have HNM := Lib.hid hnm
        rw [← hnm] at MK HME
        clear td hx hA hB hC hD hMN hML hnm NM hmn1 hml1
        have HXB := Lib.hid (show (W0.alloc (.cells #[.int .i64 fr, .int .i64 wi, .int .i64 sz, .int .i64 so, .bool md] 64)).heap.size = W0.heap.size + 1 ∧ (W0.alloc (.cells #[.int .i64 fr, .int .i64 wi, .int .i64 sz, .int .i64 so, .bool md] 64)).heap[W0.heap.size]? = some (.cells #[.int .i64 fr, .int .i64 wi, .int .i64 sz, .int .i64 so, .bool md] 64) from ⟨by simp, heap_alloc_new _ _⟩)
        have HXC := Lib.hid (fun W (bb : Below (W0.alloc (.cells #[.int .i64 fr, .int .i64 wi, .int .i64 sz, .int .i64 so, .bool md] 64)).heap.size (W0.alloc (.cells #[.int .i64 fr, .int .i64 wi, .int .i64 sz, .int .i64 so, .bool md] 64)) W) => show W.cell? ⟨W0.heap.size, 0, none⟩ = some (.int .i64 fr) ∧ W.cell? ⟨W0.heap.size, 1, none⟩ = some (.int .i64 wi) ∧ W.cell? ⟨W0.heap.size, 2, none⟩ = some (.int .i64 sz) ∧ W.cell? ⟨W0.heap.size, 3, none⟩ = some (.int .i64 so) ∧ W.cell? ⟨W0.heap.size, 4, none⟩ = some (.bool md) from by
          have h1 := (bb.block W0.heap.size (by rw [HXB.out.1]; omega)).trans HXB.out.2
          exact ⟨Lib.cell_of_heap h1 0, Lib.cell_of_heap h1 1, Lib.cell_of_heap h1 2, Lib.cell_of_heap h1 3, Lib.cell_of_heap h1 4⟩)
        have ML0 := Lib.hid (fun w2 (b2 : Below (W0.alloc (.cells #[.int .i64 fr, .int .i64 wi, .int .i64 sz, .int .i64 so, .bool md] 64)).heap.size (W0.alloc (.cells #[.int .i64 fr, .int .i64 wi, .int .i64 sz, .int .i64 so, .bool md] 64)) w2) => mk_box b2 MN (MN + ML) (1 + B) (1 + C) D nm)
        go_wp2_with (first
          | (go_at_call 18; (with_reducible refine (MK.out _).mono ?_); rintro e w2 ⟨rfl, b2⟩; have B2 := Lib.hid b2; obtain ⟨e0, e1, e2, e3, e4⟩ := HXC.out _ b2; obtain ⟨bA, bB, bC, bD, mA, mB, fB, fC, mD, fD⟩ := ML0.out _ b2; obtain ⟨_, eA1, _⟩ := HXC.out _ bA; obtain ⟨_, _, eB2, _⟩ := HXC.out _ bB; have HBD := Lib.hid bD; have HMD := Lib.hid mD; have HFD := Lib.hid fD; clear b2 bA bB bC bD mD fD)
          | fail)
        --INNER
        obtain ⟨mb, hmb⟩ : ∃ mb, mb = w2.heap.size := ⟨_, rfl⟩
        have hmbz : W0.heap.size < mb := by have := B2.out.size; have := HXB.out.1; omega
        have S0 := Lib.hid (show SrL W0 _ (.cells #[.int .i64 fr, .int .i64 wi, .int .i64 sz, .int .i64 so, .bool md] 64) mb nm MN (MN + ML) (1 + B) (1 + C) D so 0 0 (.slice none 0 0) from ⟨((HBD.out.block W0.heap.size (by rw [HXB.out.1]; omega))).trans HXB.out.2, by rw [hmb]; exact HMD.out, by rw [hmb]; exact HFD.out, Sl.nil _ _ _, ((Below.refl _ _).alloc (Nat.le_refl _) _).trans (HBD.out.mono (by rw [HXB.out.1]; omega)), by rw [hmb]; simp, hmbz⟩)
        rw [← hmb] at S0 ⊢
        clear HMD HFD HBD hmb
        go_loopw [14] (fun k' W => ∃ (k n : Nat) (v7 : Value), k' = .int .i64 k ∧ k ≤ i ∧ Hid (n = (srcN so k).length) ∧ SrL W0 W (.cells #[.int .i64 fr, .int .i64 wi, .int .i64 sz, .int .i64 so, .bool md] 64) mb nm MN (MN + ML) (1 + B) (1 + C) D so k n v7) (fun k' _ => i - (RowKit.intOf k').toNat)
        case atStart => exact ⟨0, 0, _, rfl, Nat.zero_le _, rfl, S0.out⟩
        case round =>
          clear S0
          obtain ⟨W5, rfl⟩ : ∃ W, W = wr := ⟨_, rfl⟩
          obtain ⟨k, n, v7, rfl, hk, hn, sd⟩ := hrel
          have c3 := Lib.cell_of_heap sd.xb 3
          by_cases hkl : k < i
          · have hkli : (k : Int) < i := by omega
            have hk0 : (0 : Int) ≤ k := by omega
            have hkw : IntKind.i64.wrap ((k : Int) + 1) = (k : Int) + 1 := IntWalk.i64_in _ (by omega)
            obtain ⟨b, hb⟩ : ∃ b, b = srcAt so k := ⟨_, rfl⟩
            have HBS := Lib.hid hb
            have hbb : (bits .and .i64 (so / 2 ^ k) 1 == 1) = b := by
              rw [hb, mask1]
              unfold srcAt
              exact Bool.eq_iff_iff.2 (by simp)
            clear hb
            cases b
            · have SD := Lib.hid sd
              have HNX := Lib.hid (show n = (srcN so (k + 1)).length by rw [srcN_succ, ← HBS.out]; simpa using hn.out)
              have DONE := Lib.hid (show SrL W0 W5 (.cells #[.int .i64 fr, .int .i64 wi, .int .i64 sz, .int .i64 so, .bool md] 64) mb nm MN (MN + ML) (1 + B) (1 + C) D so (k + 1) n v7 from ⟨sd.xb, sd.m, sd.f, by rw [srcN_succ, ← HBS.out]; simpa using sd.s7, sd.below, sd.big, sd.lo⟩)
              clear sd
              go_wp2_with fail
              exact ⟨⟨k + 1, n, v7, by simp, by omega, HNX, DONE.out⟩, by simp [RowKit.intOf]; omega⟩
            · obtain ⟨q, hq⟩ : ∃ q, qs[k]? = some q := ⟨_, List.getElem?_eq_getElem (by have h9 := TD.out.sl6.1; rw [msc_length] at h9; omega)⟩
              have hqid : q.m.id = Idn.nam 1 k := by
                have h1 : (qs.map Mq.m)[k]? = some q.m := by rw [List.getElem?_map, hq]; rfl
                rw [TD.out.ms, msO_get wd l i (by have := HN.out; omega) k (l[k]'(by have := HN.out; omega)) hkl (List.getElem?_eq_getElem (by have := HN.out; omega))] at h1
                rw [← Option.some.inj h1]; rfl
              obtain ⟨g6, o6, c6, rfl, hb6, hnc6, hmc6⟩ := TD.out.sl6.somewhere (by omega)
              obtain ⟨a7, k7, rfl⟩ := sd.s7.slice
              have SD := Lib.hid sd
              have hb5 := sd.big
              have hl5 := sd.lo
              have hc6 : ∀ W, Below W0.heap.size W0 W → W.cell? ⟨g6, o6 + k * 8, none⟩ = some (.string (bs (Idn.nam 1 k))) := by
                intro W bb
                have h1 := TD.out.sl6.cells (k * 8) _ ((by have h9 := msc_at qs k q hq 0 (by decide); rw [Nat.add_zero] at h9; rw [h9]; rfl) : (msc qs)[k * 8]? = some (.string (bs q.m.id)))
                rw [Addr.add_lit, hqid] at h1
                have h6 := (TD.out.sl6.lt g6 rfl).2
                exact (bb.cell (p := ⟨g6, o6 + k * 8, none⟩) h6).trans h1
              have HC6 := Lib.hid hc6
              have HM := Lib.hid (fun W (bb : Below W5.heap.size W5 W) => (bb.block mb (by omega)).trans SD.out.m)
              have HS7 := Lib.hid (fun W (bb : Below W5.heap.size W5 W) => SD.out.s7.on bb)
              have B0 := Below.refl W5.heap.size W5
              have c7 := Lib.cell_of_heap (HM.out _ B0) 7
              have c6' := HC6.out W5 sd.below
              have hn4 : n + 1 ≤ maxLen := by have := hn.out; have := srcN_len so k; unfold maxLen; omega
              have hn5 : (n + 1) * 16 ≤ 140737488355328 := by have := hn.out; have := srcN_len so k; omega
              have c7n := Lib.cell_of_heap (HM.out (W5.alloc (.cells #[.string (bs (Idn.nam 1 k))] 9)).drew (B0.alloc (Nat.le_refl _) _).drew) 7
              clear sd hq hqid hc6
              have FZ := Lib.frozen_of_heap (HM.out _ B0) 7
              go_upto_region 16 with fail
              have BQ := B0.drew
              go_region_law
                (first
                  | (refine step_append_sl rfl _ _ 43 rfl (mb + 2) 9 i1 (.string ⟨#[]⟩) 1 16 Try.underlying43 Ji.out Jz.out Js.out Jb.out rfl (by decide) _ n (sc (srcN so k)) rfl (HS7.out _ (by with_reducible repeat (first | exact Below.refl _ _ | assumption | apply Below.drew | apply bel_allocP))) ⟨W5.heap.size, 0, none⟩ 1 1 [.string (bs (Idn.nam 1 k))] rfl rfl (by first | exact lit_cellsP W5 _ _ | exact lit_cellsP W5.drew _ _) (by simp [Value.oneCell']) hn4 hn5 (by simp; omega) ?_; intro v5 w5 x5'; obtain ⟨a6, k6, rfl⟩ := x5'.now.slice; have H5 := Lib.hid (src_push SD.out (by with_reducible repeat (first | exact Below.refl _ _ | assumption | apply Below.drew | apply bel_allocP)) x5'); have c5 := Lib.cell_of_heap H5.out.1 7; have fz5 := Lib.frozen_of_heap H5.out.1 7; clear x5')
                  | fail)
              all_goals
                have HNX := Lib.hid (show n + 1 = (srcN so (k + 1)).length by rw [srcN_succ, ← HBS.out]; simp; exact hn.out)
                have DONE := Lib.hid (show SrL W0 (w5.setCell ⟨mb, 7, none⟩ (.slice a6 (n + 1) k6)) (.cells #[.int .i64 fr, .int .i64 wi, .int .i64 sz, .int .i64 so, .bool md] 64) mb nm MN (MN + ML) (1 + B) (1 + C) D so (k + 1) (n + 1) (.slice a6 (n + 1) k6) from by
                  have h9 := H5.out.2
                  rw [show sc (srcN so k) ++ [Value.string (bs (Idn.nam 1 k))] = sc (srcN so (k + 1)) from by rw [srcN_succ, ← HBS.out]; simp [sc]] at h9
                  exact ⟨h9.xb, h9.m, h9.f, h9.s7, h9.below, h9.big, h9.lo⟩)
                go_wp2_with fail
                exact ⟨⟨k + 1, n + 1, _, by simp, by omega, HNX, DONE.out⟩, by simp [RowKit.intOf]; omega⟩
          · have hkli : ¬ (k : Int) < i := by omega
            --OUT
            have hki : k = i := by omega
            obtain ⟨a7, k7, rfl⟩ := sd.s7.slice
            have hsl : n = (srcN so i).length := by rw [← hki]; exact hn.out
            have hb5 := sd.big
            have hl5 := sd.lo
            have hs7 : Sl W5 (mb + 2) 1 (.slice a7 n k7) n (sc (srcN so i)) := by rw [← hki]; exact sd.s7
            have ME0 := Lib.hid (me_made sd.f hs7 hsl (by have := srcN_len so i; omega) (by omega) : MeR W5 (⟨nm, MN, MN + ML, 1 + B, 1, 1 + C, [⟨[99, 104, 117, 110, 107, 115], D, 0⟩, ⟨[105, 110, 100, 101, 120], 9, 0⟩], srcN so i⟩ : Mt.Me) (.slice (some ⟨mb + 1, 0, none⟩) 2 2) (.slice a7 n k7))
            have MEO := Lib.hid (show (⟨nm, MN, MN + ML, 1 + B, 1, 1 + C, [⟨[99, 104, 117, 110, 107, 115], D, 0⟩, ⟨[105, 110, 100, 101, 120], 9, 0⟩], srcN so i⟩ : Mt.Me) = meO wd i ⟨fr, wi, sz, so, md⟩ from by have h9 := HME.out (srcN so i); rw [h9, HNM.out]; unfold meO; rfl)
            have TLD := Lib.hid (show Calls Try.prog 20 #[.agg #[.string (bs nm), .int .i64 MN, .int .i64 (MN + ML), .int .i64 (1 + B), .int .i64 1, .int .i64 (1 + C), .slice (some ⟨mb + 1, 0, none⟩) 2 2, .slice a7 n k7]] W5 (fun e w' => ∃ af kf, e = .returned (.agg #[.string (bs nm), .int .i64 MN, .int .i64 (MN + ML), .int .i64 (1 + B), .int .i64 1, .int .i64 (1 + C), .slice af 2 kf, .slice a7 n k7]) ∧ Sl w' W5.heap.size 3 (.slice af 2 kf) 2 (flc [⟨[99, 104, 117, 110, 107, 115], D, 0⟩, ⟨[105, 110, 100, 101, 120], 9, 0⟩]) ∧ Below W5.heap.size W5 w') from (told9_any _ (.slice (some ⟨mb + 1, 0, none⟩) 2 2) (.slice a7 n k7) W5 ME0.out).mono (by
              rintro e w' ⟨vf, rfl, s, b⟩
              obtain ⟨af, kf, rfl⟩ := s.slice
              exact ⟨af, kf, rfl, s, b⟩))
            obtain ⟨a6, k6, rfl⟩ := TD.out.sl6.slice
            obtain ⟨a8, k8, rfl⟩ := TD.out.sl8.slice
            have HMB := Lib.hid (fun W (bb : Below W5.heap.size W5 W) => (bb.block mb (by omega)).trans sd.m)
            have HXX := Lib.hid (fun W (bb : Below W5.heap.size W5 W) => (bb.block W0.heap.size (by omega)).trans sd.xb)
            have HBW := Lib.hid sd.below
            have hsz := sd.below.size
            have h4i : i + 1 ≤ maxLen := by unfold maxLen; omega
            have h5a : (i + 1) * 104 ≤ 140737488355328 := by omega
            have h5b : (i + 1) * 112 ≤ 140737488355328 := by omega
            have HS7 := Lib.hid hs7
            have HSL := Lib.hid hsl
            obtain ⟨e0', e1', e2', e3', e4', e5', e6', e7'⟩ := cells8 sd.m
            clear sd hn hsl hs7 k15 k3 k15k k18 w1 w2' w3 w4 w5' hA0 hB0 hC0 hD0 c3
            cases md
            · go_wp2_with (first
                | (go_at_call 20; (with_reducible refine TLD.out.mono ?_); rintro e w6 ⟨af, kf, rfl, sf6, b6⟩; have B6 := Lib.hid b6; have SF6 := Lib.hid sf6; have z6 := b6.size; have HXA := Lib.hid (HXX.out (w6.alloc (.cells #[.string (bs nm), .int .i64 MN, .int .i64 (MN + ML), .int .i64 (1 + B), .int .i64 1, .int .i64 (1 + C), .slice af 2 kf, .slice a7 n k7, .int .i64 (-1)] 70)) (b6.alloc (by omega) _)); have x4 := Lib.cell_of_heap HXA.out 4; have C8 := Lib.hid (lg_c8f TD.out HX.out HBW.out B6.out (HMB.out _ B6.out) hl5 (by omega) (.cells #[.string (bs nm), .int .i64 MN, .int .i64 (MN + ML), .int .i64 (1 + B), .int .i64 1, .int .i64 (1 + C), .slice af 2 kf, .slice a7 n k7, .int .i64 (-1)] 70)); obtain ⟨e0, e1, e2, e3, e4, e5, e6, e7⟩ := cells8 C8.out.m; clear e0' e1' e2' e3' e4' e5' e6' e7' b6 sf6)
                | (at_builtin; go_loud (refine wpList_append_sl2 _ rfl _ _ 23 rfl (w.heap.size + 2) 53 i0 (.agg #[.string ⟨#[]⟩, .int .i64 0, .int .i64 0, .int .i64 0, .int .i64 0, .int .i64 0, .slice none 0 0, .slice none 0 0]) 8 104 Try.underlying23 Hi.out Hz.out Hs.out Hb.out rfl (by decide) _ i _ rfl (C8.out.sl6.alloc _) _ _ 1 _ rfl (Sl.litAt (w6.alloc (.cells #[.string (bs nm), .int .i64 MN, .int .i64 (MN + ML), .int .i64 (1 + B), .int .i64 1, .int .i64 (1 + C), .slice af 2 kf, .slice a7 n k7, .int .i64 (-1)] 70)) (w6.heap.size + 1) (by simp) (w.heap.size + 2) 8 1 #[.string (bs nm), .int .i64 MN, .int .i64 (MN + ML), .int .i64 (1 + B), .int .i64 1, .int .i64 (1 + C), .slice (some ⟨mb + 1, 0, none⟩) 2 2, .slice a7 n k7] 53 (by have := C8.out.big; omega) (by decide) rfl) (mqc_oneCell (q := ⟨(⟨nm, MN, MN + ML, 1 + B, 1, 1 + C, [⟨[99, 104, 117, 110, 107, 115], D, 0⟩, ⟨[105, 110, 100, 101, 120], 9, 0⟩], srcN so i⟩ : Mt.Me), (.slice (some ⟨mb + 1, 0, none⟩) 2 2), (.slice a7 n k7)⟩) ME0.out) h4i h5a (by simp; have := C8.out.big; omega) ?_; intro v10 w10 x10; obtain ⟨a10, k10, rfl⟩ := x10.now.slice; have X10 := Lib.hid x10; have HB10 := Lib.hid (C8.out.after x10); obtain ⟨d0, d1, d2, d3, d4, d5, d6, d7, d8⟩ := cells9 HB10.out.1; clear x10))
                | (at_builtin; go_loud (refine wpList_append_sl2 _ rfl _ _ 27 rfl (w.heap.size + 2) 70 i2 (.agg #[.string ⟨#[]⟩, .int .i64 0, .int .i64 0, .int .i64 0, .int .i64 0, .int .i64 0, .slice none 0 0, .slice none 0 0, .int .i64 0]) 9 112 Try.underlying27 Ki.out Kz.out Ks.out Kb.out rfl (by decide) _ i _ rfl (HB10.out.2.1.alloc _) _ _ 1 _ rfl (Sl.lit w10 (w.heap.size + 2) 9 1 #[.string (bs nm), .int .i64 MN, .int .i64 (MN + ML), .int .i64 (1 + B), .int .i64 1, .int .i64 (1 + C), .slice af 2 kf, .slice a7 n k7, .int .i64 (-1)] 70 HB10.out.2.2 (by decide) rfl) (told_oneCell _ _ _ _ _ _ _ _ _ _ _ _ _) h4i h5b (by simp; have := HB10.out.2.2; omega) ?_; intro v12 w12 x12; obtain ⟨a12, k12, rfl⟩ := x12.now.slice; have X12 := Lib.hid x12; clear x12))
                | fail)
              have DONE := Lib.hid (lg_round TD.out HX.out MEO.out (q := ⟨(⟨nm, MN, MN + ML, 1 + B, 1, 1 + C, [⟨[99, 104, 117, 110, 107, 115], D, 0⟩, ⟨[105, 110, 100, 101, 120], 9, 0⟩], srcN so i⟩ : Mt.Me), (.slice (some ⟨mb + 1, 0, none⟩) 2 2), (.slice a7 n k7)⟩) (tq := ⟨(⟨nm, MN, MN + ML, 1 + B, 1, 1 + C, [⟨[99, 104, 117, 110, 107, 115], D, 0⟩, ⟨[105, 110, 100, 101, 120], 9, 0⟩], srcN so i⟩ : Mt.Me), .slice af 2 kf, (.slice a7 n k7)⟩) rfl rfl rfl C8.out SF6.out B6.out HS7.out (fun k hk => (Option.some.inj hk).symm) hb5 HBW.out ME0.out X10.out X12.out)
              go_wp2_with fail
              exact ⟨⟨i + 1, _, _, by simp, by omega, by omega, DONE.out⟩, by simp [RowKit.intOf]; omega⟩
            · go_wp2_with (first
                | (go_at_call 20; (with_reducible refine TLD.out.mono ?_); rintro e w6 ⟨af, kf, rfl, sf6, b6⟩; have B6 := Lib.hid b6; have SF6 := Lib.hid sf6; have z6 := b6.size; have HXA := Lib.hid (HXX.out (w6.alloc (.cells #[.string (bs nm), .int .i64 MN, .int .i64 (MN + ML), .int .i64 (1 + B), .int .i64 1, .int .i64 (1 + C), .slice af 2 kf, .slice a7 n k7, .int .i64 (-1)] 70)) (b6.alloc (by omega) _)); have x4 := Lib.cell_of_heap HXA.out 4; obtain ⟨w8, hrun, C8x⟩ := lg_c8t TD.out HX.out HNM.out HBW.out B6.out (HMB.out _ B6.out) hl5 (by omega) (.cells #[.string (bs nm), .int .i64 MN, .int .i64 (MN + ML), .int .i64 (1 + B), .int .i64 1, .int .i64 (1 + C), .slice af 2 kf, .slice a7 n k7, .int .i64 3] 70); have C8 := Lib.hid C8x; obtain ⟨e0, e1, e2, e3, e4, e5, e6, e7⟩ := cells8 C8.out.m; clear e0' e1' e2' e3' e4' e5' e6' e7' b6 sf6 C8x)
                | (at_builtin; go_loud (refine wpList_append_sl2 _ rfl _ _ 23 rfl (w.heap.size + 2) 53 i0 (.agg #[.string ⟨#[]⟩, .int .i64 0, .int .i64 0, .int .i64 0, .int .i64 0, .int .i64 0, .slice none 0 0, .slice none 0 0]) 8 104 Try.underlying23 Hi.out Hz.out Hs.out Hb.out rfl (by decide) _ i _ rfl (C8.out.sl6.alloc _) _ _ 1 _ rfl (Sl.lit w8 (w.heap.size + 2) 8 1 #[.string (bs nm), .int .i64 MN, .int .i64 (MN + ML), .int .i64 (1 + B), .int .i64 1, .int .i64 (1 + C), .slice (some ⟨mb + 1, 0, none⟩) 2 2, .slice a7 n k7] 53 (by have := C8.out.big; omega) (by decide) rfl) (mqc_oneCell (q := ⟨(⟨nm, MN, MN + ML, 1 + B, 1, 1 + C, [⟨[99, 104, 117, 110, 107, 115], D, 0⟩, ⟨[105, 110, 100, 101, 120], 9, 0⟩], srcN so i⟩ : Mt.Me), (.slice (some ⟨mb + 1, 0, none⟩) 2 2), (.slice a7 n k7)⟩) ME0.out) h4i h5a (by simp; have := C8.out.big; omega) ?_; intro v10 w10 x10; obtain ⟨a10, k10, rfl⟩ := x10.now.slice; have X10 := Lib.hid x10; have HB10 := Lib.hid (C8.out.after x10); obtain ⟨d0, d1, d2, d3, d4, d5, d6, d7, d8⟩ := cells9 HB10.out.1; clear x10))
                | (at_builtin; go_loud (refine wpList_append_sl2 _ rfl _ _ 27 rfl (w.heap.size + 2) 70 i2 (.agg #[.string ⟨#[]⟩, .int .i64 0, .int .i64 0, .int .i64 0, .int .i64 0, .int .i64 0, .slice none 0 0, .slice none 0 0, .int .i64 0]) 9 112 Try.underlying27 Ki.out Kz.out Ks.out Kb.out rfl (by decide) _ i _ rfl (HB10.out.2.1.alloc _) _ _ 1 _ rfl (Sl.lit w10 (w.heap.size + 2) 9 1 #[.string (bs nm), .int .i64 MN, .int .i64 (MN + ML), .int .i64 (1 + B), .int .i64 1, .int .i64 (1 + C), .slice af 2 kf, .slice a7 n k7, .int .i64 3] 70 HB10.out.2.2 (by decide) rfl) (told_oneCell _ _ _ _ _ _ _ _ _ _ _ _ _) h4i h5b (by simp; have := HB10.out.2.2; omega) ?_; intro v12 w12 x12; obtain ⟨a12, k12, rfl⟩ := x12.now.slice; have X12 := Lib.hid x12; clear x12))
                | fail)
              have DONE := Lib.hid (lg_round TD.out HX.out MEO.out (q := ⟨(⟨nm, MN, MN + ML, 1 + B, 1, 1 + C, [⟨[99, 104, 117, 110, 107, 115], D, 0⟩, ⟨[105, 110, 100, 101, 120], 9, 0⟩], srcN so i⟩ : Mt.Me), (.slice (some ⟨mb + 1, 0, none⟩) 2 2), (.slice a7 n k7)⟩) (tq := ⟨(⟨nm, MN, MN + ML, 1 + B, 1, 1 + C, [⟨[99, 104, 117, 110, 107, 115], D, 0⟩, ⟨[105, 110, 100, 101, 120], 9, 0⟩], srcN so i⟩ : Mt.Me), .slice af 2 kf, (.slice a7 n k7)⟩) rfl rfl rfl C8.out SF6.out B6.out HS7.out (fun k hk => (Option.some.inj hk).symm) hb5 HBW.out ME0.out X10.out X12.out)
              go_wp2_with fail
              exact ⟨⟨i + 1, _, _, by simp, by omega, by omega, DONE.out⟩, by simp [RowKit.intOf]; omega⟩
      · have hil2 : ¬ (i : Int) < 12 := by omega
        have himin : i = min l.length 12 := by have := HN.out; omega
        have hqi : i = qs.length := by have := td.sl6.1; rw [msc_length] at this; omega
        have LN := Lib.hid (show Calls Try.prog 19 #[.int .i64 5, u6, .map (some (w.heap.size + 1 + 1 + 1))] W0 (fun e w' => ∃ v' rs, e = .returned v' ∧ rs.map Mq.m = qs.map Mq.m ∧ LstR w' v' 5 rs (ksO l i) ∧ Below W0.heap.size W0 w' ∧ LstLo W0.heap.size v' rs) from lnew_any 5 u6 qs (.map (some (w.heap.size + 3))) (ksO l i) W0 ⟨by have h9 := Rd.of_sl td.sl6; rw [hqi] at h9; exact h9, fun q hq => (td.ok6 q hq).1⟩ (msO_up wd l i (by have := HN.out; omega) (by omega) qs td.ms) (by omega) (.inr ⟨_, rfl, td.mks⟩))
        obtain ⟨a8, k8, rfl⟩ := td.sl8.slice
        have TD := Lib.hid td
        have HMIN := Lib.hid himin
        have hbig := td.big
        clear td himin hqi
        go_wp2_with (first
          | (go_at_call 19; (with_reducible refine LN.out.mono ?_); rintro e w2 ⟨lv, rs, rfl, hrm, ⟨ms2, mp2, rfl, hms2, hmk2⟩, b2, hlo⟩; have B2 := Lib.hid b2; have r4 := (b2.block w.heap.size (by omega)).trans TD.out.r4; have r5 := (b2.block (w.heap.size + 1) (by omega)).trans TD.out.r5; have y0 := Lib.cell_of_heap r4 0; have y1 := Lib.cell_of_heap r4 1; have y2 := Lib.cell_of_heap r4 2; have y3 := Lib.cell_of_heap r5 0; have y4 := Lib.cell_of_heap r5 1; have z0 := Lib.frozen_of_heap r4 0; have z1 := Lib.frozen_of_heap r4 1; have z2 := Lib.frozen_of_heap r4 2; have z3 := Lib.frozen_of_heap r5 0; have z4 := Lib.frozen_of_heap r5 1; obtain ⟨a9, k9, rfl⟩ := rd_form hms2.rd; have HRM := Lib.hid hrm; have HMS := Lib.hid hms2; have HMK := Lib.hid hmk2; have HLO := Lib.hid hlo; clear b2 r4 r5 hrm hms2 hmk2 hlo)
          | fail)
        refine bodyPost_ret (v := .tuple #[.agg #[.int .i64 5, .slice a9 rs.length k9, .map (some mp2)], .agg #[.int .i64 5, .slice a8 i k8]]) (by simp [results, Try.results7, go_sem, y0, y1, y2, y3, y4]) rfl ?_
        exact lg_end TD.out HMIN.out HN.out (by omega) B2.out HRM.out HMS.out HMK.out HLO.out ((((((Turn.refl (fun k => k = w.heap.size ∨ k = w.heap.size + 1) w2).setCell ⟨w.heap.size, 0, none⟩ _ (.inl rfl)).setCell ⟨w.heap.size, 1, none⟩ _ (.inl rfl)).setCell ⟨w.heap.size, 2, none⟩ _ (.inl rfl)).setCell ⟨w.heap.size + 1, 0, none⟩ _ (.inr rfl)).setCell ⟨w.heap.size + 1, 1, none⟩ _ (.inr rfl))
    · have hil : ¬ (i : Int) < N := by omega
      have himin : i = min l.length 12 := by have := HN.out; omega
      have hqi : i = qs.length := by have := td.sl6.1; rw [msc_length] at this; omega
      have LN := Lib.hid (show Calls Try.prog 19 #[.int .i64 5, u6, .map (some (w.heap.size + 1 + 1 + 1))] W0 (fun e w' => ∃ v' rs, e = .returned v' ∧ rs.map Mq.m = qs.map Mq.m ∧ LstR w' v' 5 rs (ksO l i) ∧ Below W0.heap.size W0 w' ∧ LstLo W0.heap.size v' rs) from lnew_any 5 u6 qs (.map (some (w.heap.size + 3))) (ksO l i) W0 ⟨by have h9 := Rd.of_sl td.sl6; rw [hqi] at h9; exact h9, fun q hq => (td.ok6 q hq).1⟩ (msO_up wd l i (by have := HN.out; omega) (by omega) qs td.ms) (by omega) (.inr ⟨_, rfl, td.mks⟩))
      obtain ⟨a8, k8, rfl⟩ := td.sl8.slice
      have TD := Lib.hid td
      have HMIN := Lib.hid himin
      have hbig := td.big
      clear td himin hqi
      go_wp2_with (first
        | (go_at_call 19; (with_reducible refine LN.out.mono ?_); rintro e w2 ⟨lv, rs, rfl, hrm, ⟨ms2, mp2, rfl, hms2, hmk2⟩, b2, hlo⟩; have B2 := Lib.hid b2; have r4 := (b2.block w.heap.size (by omega)).trans TD.out.r4; have r5 := (b2.block (w.heap.size + 1) (by omega)).trans TD.out.r5; have y0 := Lib.cell_of_heap r4 0; have y1 := Lib.cell_of_heap r4 1; have y2 := Lib.cell_of_heap r4 2; have y3 := Lib.cell_of_heap r5 0; have y4 := Lib.cell_of_heap r5 1; have z0 := Lib.frozen_of_heap r4 0; have z1 := Lib.frozen_of_heap r4 1; have z2 := Lib.frozen_of_heap r4 2; have z3 := Lib.frozen_of_heap r5 0; have z4 := Lib.frozen_of_heap r5 1; obtain ⟨a9, k9, rfl⟩ := rd_form hms2.rd; have HRM := Lib.hid hrm; have HMS := Lib.hid hms2; have HMK := Lib.hid hmk2; have HLO := Lib.hid hlo; clear b2 r4 r5 hrm hms2 hmk2 hlo)
        | fail)
      refine bodyPost_ret (v := .tuple #[.agg #[.int .i64 5, .slice a9 rs.length k9, .map (some mp2)], .agg #[.int .i64 5, .slice a8 i k8]]) (by simp [results, Try.results7, go_sem, y0, y1, y2, y3, y4]) rfl ?_
      exact lg_end TD.out HMIN.out HN.out (by omega) B2.out HRM.out HMS.out HMK.out HLO.out ((((((Turn.refl (fun k => k = w.heap.size ∨ k = w.heap.size + 1) w2).setCell ⟨w.heap.size, 0, none⟩ _ (.inl rfl)).setCell ⟨w.heap.size, 1, none⟩ _ (.inl rfl)).setCell ⟨w.heap.size, 2, none⟩ _ (.inl rfl)).setCell ⟨w.heap.size + 1, 0, none⟩ _ (.inr rfl)).setCell ⟨w.heap.size + 1, 1, none⟩ _ (.inr rfl))
end Go.Proofs.Ytkialkjhjenkhaa

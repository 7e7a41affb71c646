/- Layer 9: fields, Encode. -/
import Derived.Test.YtoihkeilofpcjaaDoorMMC
namespace Go.Proofs.YtoihkeilofpcjaaDoor
open Go.RowKit Go.Lib

/-- A block that is not the slice's own stands behind an append, and is not the new slice's. -/
theorem Ext.avoid {base : Nat} {w w' : World} {v v' : Value} {n n' : Nat} {xs xs' : List Value} (x : Ext base 1 w v n xs w' v' n' xs') (q : Nat) (hq : q < w.heap.size) (hv : ∀ k, v.ownBlock = some k → k ≠ q) :
    w'.heap[q]? = w.heap[q]? ∧ ∀ k, v'.ownBlock = some k → k ≠ q := by
  refine ⟨x.grown.block q hq (fun e => hv q e.symm rfl), fun k hk => ?_⟩
  rcases x.alias with ⟨a, cap, rfl, rfl, _⟩ | hf
  · exact hv k ((ownBlock_slice _ _ _ _ _).trans hk)
  · have := hf k hk; omega

/-- The bytes acc are written so far: v; what was ahead of base, and block q, are as in w0. -/
structure AccS (base q : Nat) (w0 w : World) (v : Value) (acc : List UInt8) : Prop where
  sl : Sl w base 1 v acc.length (cb acc)
  bel : Below base w0 w
  box : w.heap[q]? = w0.heap[q]?
  own : ∀ k, v.ownBlock = some k → k ≠ q
  hb : base ≤ w0.heap.size
  hq : q < w0.heap.size

theorem AccS.nil {base q : Nat} {w0 : World} (hb : base ≤ w0.heap.size) (hq : q < w0.heap.size) : AccS base q w0 w0 (.slice none 0 0) [] :=
  ⟨Sl.nil _ _ _, Below.refl _ _, rfl, fun k hk => by simp [Value.ownBlock] at hk, hb, hq⟩
theorem AccS.alloc {base q : Nat} {w0 w : World} {v : Value} {acc : List UInt8} (h : AccS base q w0 w v acc) (o : Obj) : AccS base q w0 (w.alloc o) v acc :=
  ⟨h.sl.alloc o, h.bel.alloc (Nat.le_trans h.hb h.bel.size) o, (Below.heap_alloc w o q (Nat.lt_of_lt_of_le h.hq h.bel.size)).trans h.box, h.own, h.hb, h.hq⟩
theorem AccS.ext {base q : Nat} {w0 w w' : World} {v v' : Value} {acc xs : List UInt8} (h : AccS base q w0 w v acc) (x : Ext base 1 w v acc.length (cb acc) w' v' (acc.length + xs.length) (cb acc ++ cb xs)) : AccS base q w0 w' v' (acc ++ xs) := by
  obtain ⟨e1, e2⟩ := x.avoid q (Nat.lt_of_lt_of_le h.hq h.bel.size) h.own
  refine ⟨?_, h.bel.trans (x.below (Nat.le_refl _) (Nat.le_trans h.hb h.bel.size)), e1.trans h.box, e2, h.hb, h.hq⟩
  have := x.now
  rwa [← cb_append, ← List.length_append] at this
/-- .. and block p, too. -/
def AccP (base q : Nat) (w0 w : World) (v : Value) (acc : List UInt8) (e : Ending) (w' : World) : Prop :=
  ∃ v', e = .returned v' ∧ AccS base q w0 w' v' acc ∧ w.heap.size ≤ w'.heap.size ∧ ∀ p, p < w.heap.size → (∀ k, v.ownBlock = some k → k ≠ p) → w'.heap[p]? = w.heap[p]? ∧ ∀ k, v'.ownBlock = some k → k ≠ p

theorem uint_acc {base q : Nat} {w0 w : World} {v : Value} {acc : List UInt8} (h : AccS base q w0 w v acc) (x : Nat) (hx : x < 18446744073709551616) (hl : acc.length ≤ 1000000000) :
    Calls Tryd.prog 38 #[v, .int .u64 x] w (AccP base q w0 w v (acc ++ Leb.encU x)) := by
  refine (uint_any base v acc.length (cb acc) x w (by unfold Leb.two64; exact hx) h.sl (by omega) (Nat.le_trans h.hb h.bel.size)).mono ?_
  rintro e w' ⟨v', rfl, y⟩
  exact ⟨v', rfl, h.ext y, y.grown.size, fun p hp hv => y.avoid p hp hv⟩
theorem text_acc {base q : Nat} {w0 w : World} {v : Value} {acc : List UInt8} (h : AccS base q w0 w v acc) (x : List UInt8) (hx : x.length ≤ 1000000000) (hl : acc.length ≤ 1000000000) :
    Calls Tryd.prog 37 #[v, .string (bs x)] w (AccP base q w0 w v (acc ++ Leb.encT x)) := by
  refine (text_any base v acc.length (cb acc) (bs x) w (by rw [bs_size]; omega) h.sl (Nat.le_trans h.hb h.bel.size)).mono ?_
  rintro e w' ⟨v', rfl, y⟩
  exact ⟨v', rfl, h.ext y, y.grown.size, fun p hp hv => y.avoid p hp hv⟩

/-- New bytes. -/
def NewB (w : World) (l : List UInt8) (e : Ending) (w' : World) : Prop := ∃ v, e = .returned v ∧ Sl w' w.heap.size 1 v l.length (cb l) ∧ Below w.heap.size w w'

theorem wrap_small (n : Nat) (h : n < 9223372036854775808) : IntKind.u64.wrap (n : Int) = n := by
  rw [show IntKind.u64.wrap (n : Int) = (n : Int) % 18446744073709551616 by simp [IntKind.wrap, IntKind.bits, IntKind.signed]]; omega
theorem flB_len (f : Mt.Fl) : (Mt.flB f).length ≤ f.name.length + 30 := by
  have := (Leb.encU_len f.name.length).2
  have := (Leb.encU_len f.size.toNat).2
  have := (Leb.encU_len f.sum).2
  rw [Mt.flB, List.length_append, List.length_append, Leb.encT, List.length_append]
  omega
theorem take_flat {α : Type} (f : α → List UInt8) (l : List α) (i : Nat) (x : α) (h : l[i]? = some x) : (l.take (i + 1)).flatMap f = (l.take i).flatMap f ++ f x := by
  rw [List.take_add_one, h]; simp
theorem flat_le {α : Type} (f : α → List UInt8) (c : Nat) : ∀ (l : List α), (∀ x ∈ l, (f x).length ≤ c) → (l.flatMap f).length ≤ c * l.length
  | [], _ => by simp
  | x :: l, h => by
    have h1 := flat_le f c l fun y hy => h y (by simp [hy])
    have h2 := h x (by simp)
    rw [List.flatMap_cons, List.length_append, List.length_cons, Nat.mul_succ]
    omega

/-- The loops' relation: i of them have been written. -/
def FRel {α : Type} (f : α → List UInt8) (base q : Nat) (WX : World) (A : List UInt8) (l : List α) (v i' : Value) (wr : World) : Prop :=
  ∃ i : Nat, i' = .int .i64 i ∧ i ≤ l.length ∧ AccS base q WX wr v (A ++ (l.take i).flatMap f)
theorem frel_zero {α : Type} {f : α → List UInt8} {base q : Nat} {WX wr : World} {A : List UInt8} {l : List α} {v : Value} (h : AccS base q WX wr v A) : FRel f base q WX A l v (.int .i64 0) wr :=
  ⟨0, rfl, Nat.zero_le _, by rw [List.take_zero, List.flatMap_nil, List.append_nil]; exact h⟩
theorem frel_succ {α : Type} {f : α → List UInt8} {base q : Nat} {WX wr : World} {A : List UInt8} {l : List α} {v : Value} {i : Nat} (hi : i < l.length) (h : AccS base q WX wr v (A ++ (l.take (i + 1)).flatMap f)) : FRel f base q WX A l v (.int .i64 ((i : Int) + 1)) wr :=
  ⟨i + 1, by simp, hi, h⟩

set_option maxHeartbeats 4000000 in
set_option maxRecDepth 100000 in
theorem fields_any (m : Mt.Me) (vf vs : Value) (w : World) (h : MeR w m vf vs) (hc : Mt.chk m = true) (hsum : ∀ f ∈ m.files, f.sum < 4294967296) :
    Calls Tryd.prog 28 #[meV m vf vs] w (NewB w (Mt.fld m)) := by
  obtain ⟨id, mn, mx, lv, se, sa, files, src⟩ := m
  obtain ⟨⟨-, af, kf, gf, of', rfl, hgf, hcf⟩, ⟨-, a5, k5, g5, o5, rfl, hg5, hc5⟩, -, -⟩ := h
  simp only [Nat.mul_one] at hgf hcf hg5 hc5
  have hc2 := hc
  unfold Mt.chk at hc2
  simp only [Bool.and_eq_true] at hc2
  obtain ⟨⟨⟨⟨k1, k2⟩, k3⟩, k4⟩, k6⟩ := hc2
  have hid := Mt.isN_len k1
  unfold Mt.okT at k2
  unfold Mt.okN at k3
  unfold Mt.okS at k6
  simp only [Bool.and_eq_true, decide_eq_true_eq] at k2 k3 k6 hid
  obtain ⟨mn, rfl⟩ := Int.eq_ofNat_of_zero_le k2.1.1
  obtain ⟨mx, rfl⟩ := Int.eq_ofNat_of_zero_le (show 0 ≤ mx by omega)
  obtain ⟨lv, rfl⟩ := Int.eq_ofNat_of_zero_le (show 0 ≤ lv by omega)
  obtain ⟨se, rfl⟩ := Int.eq_ofNat_of_zero_le k3.1.1.2
  obtain ⟨sa, rfl⟩ := Int.eq_ofNat_of_zero_le (show 0 ≤ sa by omega)
  have h1 := wrap_small mn (by omega)
  have h2 := wrap_small mx (by omega)
  have h3 := wrap_small lv (by omega)
  have h4 := wrap_small se (by omega)
  have h5 := wrap_small sa (by omega)
  have m1 : mn ≤ 2000000000000 := by omega
  have m2 : mx ≤ 2000000000000 := by omega
  have m3 : lv ≤ 2000000000000 := by omega
  have m4 : se ≤ 2000000000000 := by omega
  have m5 : sa ≤ 2000000000000 := by omega
  have hfl2 : files.length = 2 := by
    obtain ⟨f, g, rfl, _⟩ := Mt.okFs_two k4
    rfl
  have hfok : ∀ f ∈ files, f.name.length ≤ 40 ∧ 0 ≤ f.size ∧ f.size ≤ 1048576 ∧ f.sum < 4294967296 := by
    obtain ⟨f, g, rfl, hf, hg⟩ := Mt.okFs_two k4
    unfold Mt.okF at hf hg
    simp only [Bool.and_eq_true, decide_eq_true_eq] at hf hg
    intro x hx
    have hsx := hsum x hx
    simp only [List.mem_cons, List.not_mem_nil, or_false] at hx
    rcases hx with rfl | rfl
    · rw [hf.1.1]; exact ⟨by decide, hf.1.2, hf.2, hsx⟩
    · rw [hg.1.1]; exact ⟨by decide, hg.1.2, hg.2, hsx⟩
  have hs16 : ∀ s ∈ src, s.length = 16 := fun s hs => Mt.isN_len (Mt.okSs_mem k6.2 s hs)
  have hs50 : src.length ≤ 50 := k6.1
  obtain ⟨A5, hA5⟩ : ∃ A : List UInt8, A = Leb.encT id ++ Leb.encU mn ++ Leb.encU mx ++ Leb.encU lv ++ Leb.encU se ++ Leb.encU sa := ⟨_, rfl⟩
  obtain ⟨L, hL⟩ : ∃ L, L = Mt.fld ⟨id, mn, mx, lv, se, sa, files, src⟩ := ⟨_, rfl⟩
  have hLA : L = A5 ++ files.flatMap Mt.flB ++ Leb.encU src.length ++ src.flatMap Leb.encT := by
    rw [hL, hA5]
    unfold Mt.fld
    simp only [Int.toNat_natCast, List.append_assoc]
  rw [← hL]
  have e1 := (Leb.encU_len id.length).2
  have e2 := (Leb.encU_len mn).2
  have e3 := (Leb.encU_len mx).2
  have e4 := (Leb.encU_len lv).2
  have e5 := (Leb.encU_len se).2
  have e6 := (Leb.encU_len sa).2
  have q0 : (Leb.encT id).length ≤ 26 := by rw [Leb.encT, List.length_append]; omega
  have q1 : (Leb.encT id ++ Leb.encU mn).length ≤ 36 := by rw [List.length_append]; omega
  have q2 : (Leb.encT id ++ Leb.encU mn ++ Leb.encU mx).length ≤ 46 := by rw [List.length_append]; omega
  have q3 : (Leb.encT id ++ Leb.encU mn ++ Leb.encU mx ++ Leb.encU lv).length ≤ 56 := by rw [List.length_append]; omega
  have q4 : (Leb.encT id ++ Leb.encU mn ++ Leb.encU mx ++ Leb.encU lv ++ Leb.encU se).length ≤ 66 := by rw [List.length_append]; omega
  have q5 : A5.length ≤ 76 := by rw [hA5, List.length_append]; omega
  have HLA := Lib.hid hLA
  have HA5 := Lib.hid hA5
  have HFO := Lib.hid hfok
  have HS16 := Lib.hid hs16
  have HF2 := Lib.hid hfl2
  have HCF := Lib.hid hcf
  have HC5 := Lib.hid hc5
  have HGF := Lib.hid hgf
  have HG5 := Lib.hid hg5
  obtain ⟨X, hX⟩ : ∃ X : Obj, X = .cells #[.string (bs id), .int .i64 mn, .int .i64 mx, .int .i64 lv, .int .i64 se, .int .i64 sa, .slice af files.length kf, .slice a5 src.length k5] 25 := ⟨_, rfl⟩
  have A0 : AccS w.heap.size w.heap.size (w.alloc X) (w.alloc X) (.slice none 0 0) [] := AccS.nil (by simp) (by simp)
  have hbx := heap_alloc_new w X
  obtain ⟨WX, hWX⟩ : ∃ W, W = w.alloc X := ⟨_, rfl⟩
  have BWX : Below w.heap.size w WX := by rw [hWX]; exact (Below.refl _ _).alloc (Nat.le_refl _) _
  rw [hX] at A0 hbx hWX
  have HWX := Lib.hid hWX
  have A0' := Lib.hid A0
  have HBX := Lib.hid hbx
  have hidl : id.length ≤ 1000000000 := by omega
  clear hc k1 k2 k3 k4 k6 hid hsum hLA hA5 hfok hs16 hfl2 hcf hc5 hgf hg5 hL A0 hbx hWX e1 e2 e3 e4 e5 e6 hX X
  unfold meV
  go_enter Tryd.func28, Tryd.ntmps28
  go_wp2_with fail
  refine (text_acc A0'.out id hidl (by simp)).mono ?_
  rintro e w1 ⟨v1, rfl, a1, z1, -⟩
  rw [List.nil_append] at a1
  obtain ⟨p0, p1, p2, p3, p4, p5, p6, p7⟩ := cells8 (a1.box.trans HBX.out)
  go_wp2_with fail
  refine (uint_acc a1 mn (by omega) (by omega)).mono ?_
  rintro e w2 ⟨v2, rfl, a2, z2, -⟩
  clear p0 p1 p2 p3 p4 p5 p6 p7
  obtain ⟨p0, p1, p2, p3, p4, p5, p6, p7⟩ := cells8 (a2.box.trans HBX.out)
  go_wp2_with fail
  refine (uint_acc a2 mx (by omega) (by omega)).mono ?_
  rintro e w3 ⟨v3, rfl, a3, z3, -⟩
  clear p0 p1 p2 p3 p4 p5 p6 p7
  obtain ⟨p0, p1, p2, p3, p4, p5, p6, p7⟩ := cells8 (a3.box.trans HBX.out)
  go_wp2_with fail
  refine (uint_acc a3 lv (by omega) (by omega)).mono ?_
  rintro e w4 ⟨v4, rfl, a4, z4, -⟩
  clear p0 p1 p2 p3 p4 p5 p6 p7
  obtain ⟨p0, p1, p2, p3, p4, p5, p6, p7⟩ := cells8 (a4.box.trans HBX.out)
  go_wp2_with fail
  refine (uint_acc a4 se (by omega) (by omega)).mono ?_
  rintro e w5 ⟨v5, rfl, a5', z5, -⟩
  clear p0 p1 p2 p3 p4 p5 p6 p7
  obtain ⟨p0, p1, p2, p3, p4, p5, p6, p7⟩ := cells8 (a5'.box.trans HBX.out)
  go_wp2_with fail
  refine (uint_acc a5' sa (by omega) (by omega)).mono ?_
  rintro e w6 ⟨v6, rfl, a6, z6, -⟩
  clear p0 p1 p2 p3 p4 p5 p6 p7
  obtain ⟨p0, p1, p2, p3, p4, p5, p6, p7⟩ := cells8 (a6.box.trans HBX.out)
  rw [← HA5.out] at a6
  clear a1 a2 a3 a4 a5' z1 z2 z3 z4 z5 z6 h1 h2 h3 h4 h5 q0 q1 q2 q3 q4
  rw [← HWX.out] at a6
  have HBX2 := HBX.out
  rw [← HWX.out] at HBX2
  have HB := Lib.hid HBX2
  have A6 := Lib.hid a6
  clear a6 HBX2
  go_wp2_with fail
  have hFm : ∀ i, ((files.take i).flatMap Mt.flB).length ≤ 70 * i := fun i => by
    have h := flat_le Mt.flB 70 (files.take i) (fun x hx => by
      have := (HFO.out x (List.mem_of_mem_take hx)).1
      have := flB_len x
      omega)
    rw [List.length_take] at h
    have : min i files.length ≤ i := Nat.min_le_left _ _
    have := Nat.mul_le_mul_left 70 this
    omega
  have HFM := Lib.hid hFm
  clear hFm
  go_loopw [3, 39] (fun v' i' wr => FRel Mt.flB w.heap.size w.heap.size WX A5 files v' i' wr) (fun _ i' _ => files.length - (intOf i').toNat)
  case atStart => exact frel_zero A6.out
  case round =>
    clear p0 p1 p2 p3 p4 p5 p6 p7
    obtain ⟨i, rfl, hi, acc⟩ := hrel
    have hi2 : i ≤ 2 := by have := HF2.out; omega
    have bw : Below w.heap.size w wr := BWX.trans acc.bel
    have bz := bw.size
    obtain ⟨p0, p1, p2, p3, p4, p5, p6, p7⟩ := cells8 (acc.box.trans HB.out)
    obtain ⟨B, hB⟩ : ∃ B, B = A5 ++ (files.take i).flatMap Mt.flB := ⟨_, rfl⟩
    have hBl : B.length ≤ 300 := by have := HFM.out i; rw [hB, List.length_append]; omega
    rw [← hB] at acc
    by_cases hlt : i < files.length
    · obtain ⟨f, hf⟩ : ∃ f, files[i]? = some f := ⟨files[i], List.getElem?_eq_getElem hlt⟩
      have hfo := HFO.out f (List.mem_of_getElem? hf)
      obtain ⟨r0, r1, r2⟩ := flc_at files i f hf
      have htk := take_flat Mt.flB files i f hf
      obtain ⟨nm, sz, sm⟩ := f
      simp only at hfo r0 r1 r2
      obtain ⟨hn40, hs0, hs1, hsm⟩ := hfo
      obtain ⟨sz, rfl⟩ := Int.eq_ofNat_of_zero_le hs0
      obtain ⟨rfl, hgl⟩ := HGF.out (by omega)
      have q0 := ((bw.cell (p := ⟨gf, of' + i * 3, none⟩) hgl).trans (HCF.out (i * 3) (by omega))).trans r0
      have q1 := ((bw.cell (p := ⟨gf, of' + (i * 3 + 1), none⟩) hgl).trans (HCF.out (i * 3 + 1) (by omega))).trans r1
      have q2 := ((bw.cell (p := ⟨gf, of' + (i * 3 + 2), none⟩) hgl).trans (HCF.out (i * 3 + 2) (by omega))).trans r2
      rw [← Nat.add_assoc] at q1 q2
      have hil : (i : Int) < files.length := by omega
      have hw1 := wrap_small sz (by omega)
      have hw2 := wrap_small sm (by omega)
      have hbn := heap_alloc_new wr (.cells #[.string (bs nm), .int .i64 sz, .int .u32 sm] 42)
      have hown : ∀ k, u3.ownBlock = some k → k ≠ wr.heap.size := fun k hk => by have := (acc.sl.lt k hk).2; omega
      have accA := acc.alloc (.cells #[.string (bs nm), .int .i64 sz, .int .u32 sm] 42)
      have e1 := (Leb.encU_len nm.length).2
      have e2 := (Leb.encU_len sz).2
      have qa : (B ++ Leb.encT nm).length ≤ 400 := by rw [List.length_append, Leb.encT, List.length_append]; omega
      have qb : (B ++ Leb.encT nm ++ Leb.encU sz).length ≤ 420 := by rw [List.length_append]; omega
      have HTK := Lib.hid (show A5 ++ (files.take (i + 1)).flatMap Mt.flB = B ++ Leb.encT nm ++ Leb.encU sz ++ Leb.encU sm by
        rw [htk, hB, Mt.flB]
        simp only [Int.toNat_natCast, List.append_assoc])
      have HBN := Lib.hid hbn
      have HOWN := Lib.hid hown
      have ACC := Lib.hid accA
      clear hf r0 r1 r2 htk hB hbn hown accA acc e1 e2 hs0
      go_wp2_with fail
      refine (text_acc ACC.out nm (by omega) (by omega)).mono ?_
      rintro e y1 ⟨o1, rfl, a1, z1, av1⟩
      obtain ⟨bx1, ow1⟩ := av1 wr.heap.size (by simp) HOWN.out
      obtain ⟨⟨c0, c1, c2⟩, -⟩ := cells3 (bx1.trans HBN.out)
      have OW1 := Lib.hid ow1
      have BX1 := Lib.hid bx1
      clear av1 ow1 bx1
      simp at z1
      go_wp2_with fail
      refine (uint_acc a1 sz (by omega) (by omega)).mono ?_
      rintro e y2 ⟨o2, rfl, a2, z2, av2⟩
      obtain ⟨bx2, ow2⟩ := av2 wr.heap.size (by omega) OW1.out
      clear c0 c1 c2
      obtain ⟨⟨c0, c1, c2⟩, -⟩ := cells3 ((bx2.trans BX1.out).trans HBN.out)
      clear av2 ow2 bx2
      go_wp2_with fail
      refine (uint_acc a2 sm (by omega) (by omega)).mono ?_
      rintro e y3 ⟨o3, rfl, a3, z3, -⟩
      clear c0 c1 c2
      rw [← HTK.out] at a3
      have A3 := Lib.hid a3
      clear a3 a2 a1 z1 z2 z3 q0 q1 q2
      go_wp2_with fail
      exact ⟨frel_succ hlt A3.out, by simp [intOf]; omega⟩
    · have hil : ¬ (i : Int) < files.length := by omega
      have hie : i = files.length := by omega
      have hBe : B = A5 ++ files.flatMap Mt.flB := by rw [hB, hie, List.take_length]
      have hwn := wrap_small src.length (by omega)
      have e1 := (Leb.encU_len src.length).2
      obtain ⟨C, hC⟩ : ∃ C, C = B ++ Leb.encU src.length := ⟨_, rfl⟩
      have hCl : C.length ≤ 320 := by rw [hC, List.length_append]; omega
      have HCL := Lib.hid (show L = C ++ src.flatMap Leb.encT by rw [HLA.out, hC, hBe])
      have HC := Lib.hid hC
      have ACC := Lib.hid acc
      have hTm : ∀ j, ((src.take j).flatMap Leb.encT).length ≤ 26 * j := fun j => by
        have h := flat_le Leb.encT 26 (src.take j) (fun x hx => by
          have := HS16.out x (List.mem_of_mem_take hx)
          have := (Leb.encU_len x.length).2
          rw [Leb.encT, List.length_append]; omega)
        rw [List.length_take] at h
        have : min j src.length ≤ j := Nat.min_le_left _ _
        have := Nat.mul_le_mul_left 26 this
        omega
      have HTM := Lib.hid hTm
      have hsl50 : src.length < 18446744073709551616 := by omega
      clear hB hie hBe e1 hC acc hTm hi hlt
      go_wp2_with fail
      refine (uint_acc ACC.out src.length hsl50 (by omega)).mono ?_
      rintro e y1 ⟨o1, rfl, a1, z1, -⟩
      rw [← HC.out] at a1
      clear p0 p1 p2 p3 p4 p5 p6 p7
      obtain ⟨p0, p1, p2, p3, p4, p5, p6, p7⟩ := cells8 (a1.box.trans HB.out)
      have A1 := Lib.hid a1
      clear a1
      go_wp2_with fail
      go_loopw [3, 67] (fun v' j' wr => FRel Leb.encT w.heap.size w.heap.size WX C src v' j' wr) (fun _ j' _ => src.length - (intOf j').toNat)
      case atStart => exact frel_zero A1.out
      case round =>
        clear p0 p1 p2 p3 p4 p5 p6 p7
        obtain ⟨W9, rfl⟩ : ∃ W9, W9 = wr := ⟨_, rfl⟩
        obtain ⟨j, rfl, hj, acc⟩ := hrel
        have bw2 : Below w.heap.size w W9 := BWX.trans acc.bel
        obtain ⟨D, hD⟩ : ∃ D, D = C ++ (src.take j).flatMap Leb.encT := ⟨_, rfl⟩
        have hDl : D.length ≤ 2000 := by have := HTM.out j; rw [hD, List.length_append]; omega
        rw [← hD] at acc
        by_cases hlt : j < src.length
        · obtain ⟨x, hx⟩ : ∃ x, src[j]? = some x := ⟨src[j], List.getElem?_eq_getElem hlt⟩
          have hx16 := HS16.out x (List.mem_of_getElem? hx)
          obtain ⟨rfl, hgl⟩ := HG5.out (by omega)
          have q0 := ((bw2.cell (p := ⟨g5, o5 + j, none⟩) hgl).trans (HC5.out j (by omega))).trans (sc_at src j x hx)
          have hjl : (j : Int) < src.length := by omega
          have HTK := Lib.hid (show C ++ (src.take (j + 1)).flatMap Leb.encT = D ++ Leb.encT x by rw [take_flat Leb.encT src j x hx, hD, List.append_assoc])
          have hx17 : x.length ≤ 1000000000 := by omega
          have ACC2 := Lib.hid acc
          clear hx hD acc hx16
          go_wp2_with fail
          refine (text_acc ACC2.out x hx17 (by omega)).mono ?_
          rintro e y2 ⟨o2, rfl, a2, z2, -⟩
          rw [← HTK.out] at a2
          have A2 := Lib.hid a2
          clear a2 z2 q0
          go_wp2_with fail
          exact ⟨frel_succ hlt A2.out, by simp [intOf]; omega⟩
        · have hjl : ¬ (j : Int) < src.length := by omega
          have HLD := Lib.hid (show L = D by rw [HCL.out, hD, List.take_of_length_le (by omega)])
          have SL := Lib.hid acc.sl
          have BW := Lib.hid bw2
          clear hD acc bw2 hlt hj
          go_wp2
          go_ret
          exact ⟨_, rfl, by rw [HLD.out]; exact SL.out, BW.out⟩

set_option maxHeartbeats 2000000 in
set_option maxRecDepth 100000 in
theorem encode_any (m : Mt.Me) (vf vs : Value) (w : World) (h : MeR w m vf vs) (hc : Mt.chk m = true) (hsum : ∀ f ∈ m.files, f.sum < 4294967296) :
    Calls Tryd.prog 10 #[meV m vf vs] w fun e w' => e = .returned (.string (bs (Fr.rec 1 (Mt.fld m)))) ∧ Below w.heap.size w w' := by
  have F := Lib.hid (fun W hW => fields_any m vf vs W hW hc hsum)
  have H := Lib.hid h
  obtain ⟨-, af, kf, gf, o5f, rfl, -⟩ := h.1
  obtain ⟨-, a5, k5, g5, o5, rfl, -⟩ := h.2.1
  have hfl := Mt.fld_len m hc
  obtain ⟨d, hd⟩ : ∃ d, d = Mt.fld m := ⟨_, rfl⟩
  obtain ⟨r, hr⟩ : ∃ r, r = Fr.rec 1 d := ⟨_, rfl⟩
  obtain ⟨q, hq⟩ : ∃ q, r.length = q := ⟨_, rfl⟩
  have hq0 : 0 < q := by rw [← hq, hr]; have := (Fr.rec_len 1 d).1; omega
  rw [← hd] at F hfl ⊢
  rw [← hr]
  have A1 := Lib.hid (fun W => append_new 1 d r q hr.symm hq hq0 W (by omega))
  clear h hc hsum hd hr hq
  unfold meV at F ⊢
  go_enter Tryd.func10, Tryd.ntmps10
  go_wp2_with fail
  refine (F.out _ (H.out.on ((Below.refl _ _).alloc (Nat.le_refl _) _))).mono ?_
  rintro e w1 ⟨v1, rfl, s1, b1⟩
  have c1 := text_conv s1
  go_wp2_with fail
  refine (A1.out _).mono ?_
  rintro e w2 ⟨g2, o2, k2, rfl, _, _, h2, b2⟩
  have c2 := text_conv h2
  go_wp2
  go_ret
  exact ⟨rfl, below_step (((Below.refl _ _).alloc (Nat.le_refl _) _).trans (b1.mono (by simp))) b2⟩
end Go.Proofs.YtoihkeilofpcjaaDoor

/- The document's with: an object put into its list. -/
import Derived.Test.YtnjoojffefhgpaaMPA
namespace Go.Proofs.Ytnjoojffefhgpaa
open Go.Conc Go.RowKit
set_option linter.unusedVariables false

theorem insL_take (x : Rj) (ys : List Rj) (i : Nat) (o : Rj) (h : ys[i]? = some o) : foldW x (ys.take (i + 1)) = stepW x (foldW x (ys.take i)) o := by
  rw [List.take_add_one, h]; exact foldW_snoc x _ o
/-- The program's order of texts. -/
theorem bless_lt : ∀ (a b : List UInt8), Op.bytesLess a b = true ↔ a < b
  | [], [] => by simp [Op.bytesLess]
  | [], _ :: _ => by simp [Op.bytesLess]
  | _ :: _, [] => by simp [Op.bytesLess]
  | x :: a, y :: b => by
    have ih := bless_lt a b
    have e : Op.bytesLess (x :: a) (y :: b) = (decide (x < y) || x == y && Op.bytesLess a b) := rfl
    rw [List.cons_lt_cons_iff, ← ih, e]
    simp
theorem bless_dec (a b : ByteArray) : Op.bytesLess a.toList b.toList = decide (bl a < bl b) := by
  rw [ByteArray.toList_eq, ByteArray.toList_eq]
  by_cases h : a.data.toList < b.data.toList
  · rw [(bless_lt _ _).2 h]; exact (decide_eq_true h).symm
  · rw [Bool.eq_false_iff.2 fun e => h ((bless_lt _ _).1 e)]; exact (decide_eq_false h).symm

theorem bgt_true {a b : ByteArray} (h : bl a < bl b) : (!Op.bytesLess b.toList a.toList && !b.toList == a.toList) = true := by
  rw [bless_dec, decide_eq_false (fun h2 => bytes_lt_irrefl _ (bytes_lt_trans h h2))]
  have : (b.toList == a.toList) = false := by
    rw [Bool.eq_false_iff]
    intro e
    have := bytes_same (eq_of_beq e)
    rw [this] at h
    exact bytes_lt_irrefl _ h
  rw [this]; rfl
theorem bgt_false {a b : ByteArray} (h : ¬ bl a < bl b) : (!Op.bytesLess b.toList a.toList && !b.toList == a.toList) = false := by
  rcases bytes_not_lt h with e | h2
  · have : b = a := (bl_inj e).symm
    rw [this, beq_self_eq_true]; simp
  · rw [bless_dec, decide_eq_true h2]; rfl

/-- While one list grows, another one is read. -/
structure Wi (B : Nat) (W3 wr : World) (vo : Value) (n : Nat) (xs : List Value) (v' : Value) (m : Nat) (ys : List Value) : Prop where
  out : Sl wr B 3 vo n xs
  src : Sl wr B 3 v' m ys
  apart : ∀ k, vo.ownBlock = some k → v'.ownBlock ≠ some k
  below : Below B W3 wr
  size : B ≤ wr.heap.size
theorem Wi.alloc {B : Nat} {W3 wr : World} {vo : Value} {n : Nat} {xs : List Value} {v' : Value} {m : Nat} {ys : List Value} (h : Wi B W3 wr vo n xs v' m ys) (o : Obj) : Wi B W3 (wr.alloc o) vo n xs v' m ys :=
  ⟨h.out.alloc o, h.src.alloc o, h.apart, h.below.alloc h.size o, by simp; have := h.size; omega⟩
theorem Wi.ext {B : Nat} {W3 wr w5 : World} {vo v5 : Value} {n n5 : Nat} {xs xs5 : List Value} {v' : Value} {m : Nat} {ys : List Value} (h : Wi B W3 wr vo n xs v' m ys) (e : Ext B 3 wr vo n xs w5 v5 n5 xs5) : Wi B W3 w5 v5 n5 xs5 v' m ys := by
  refine ⟨e.now, h.src.kept e.grown ?_, fun k hk => ?_, h.below.trans (e.below (Nat.le_refl _) h.size), Nat.le_trans h.size e.grown.size⟩
  · cases hv : v'.ownBlock with
    | none => exact .inl rfl
    | some k => exact .inr fun hh => h.apart k hh.symm (by rw [hv])
  · rcases e.alias with ⟨a, cap, rfl, rfl, _⟩ | hf
    · exact h.apart k (by rw [ownBlock_slice _ _ n5 _ cap] at hk ⊢; exact hk)
    · intro hv
      have h1 := (h.src.lt k hv).2
      have h2 := hf k hk
      omega

theorem nums (n : Nat) (h : n ≤ 902) : n + 1 ≤ maxLen ∧ (n + 1) * 40 ≤ 140737488355328 ∧ n + 1 + 1 ≤ maxLen ∧ (n + 1 + 1) * 40 ≤ 140737488355328 := by
  unfold maxLen; omega
theorem wi_box {B : Nat} {W3 wr w5 : World} {vo v5 : Value} {n n5 : Nat} {xs xs5 : List Value} {v' : Value} {m : Nat} {ys : List Value} {O X : Obj} (h : Wi B W3 wr vo n xs v' m ys) (e : Ext B 3 ((wr.alloc O).alloc X) vo n xs w5 v5 n5 xs5) : w5.heap[wr.heap.size]? = some O := by
  rw [e.grown.block wr.heap.size (by simp; omega) (fun he => by have := (h.out.lt _ he.symm).2; omega), Below.heap_alloc _ _ _ (by simp)]
  exact heap_alloc_new wr O
theorem field_L (a b : Option Addr) (n c m d : Nat) (w : World) : (Instr.field 52 (.agg #[.slice a n c, .slice b m d]) 0).run Try.prog w = .ok (.slice a n c) w := by kernel_rfl

set_option maxHeartbeats 2000000 in
set_option maxRecDepth 100000 in
theorem rwith_any (base : Nat) (v u : Value) (xs : List Rj) (x : Rj) (w : World) (hs : Sl w base 3 v xs.length (rjc xs)) (hlen : xs.length ≤ 900) (hu : ∃ a n c, u = .slice a n c) :
    Calls Try.prog 69 #[rbv v u, .agg #[.string x.name, .string x.data, .int .i64 x.tm]] w fun e w' => ∃ v', e = .returned (rbv v' u) ∧ Sl w' w.heap.size 3 v' (withR x xs).length (rjc (withR x xs)) ∧ Below w.heap.size w w' := by
  obtain ⟨i0, hi, hz0, hz1, hz2⟩ := info_parts zc_object
  have Hz := Lib.hid hz0; have Hs := Lib.hid hz1; have Hb := Lib.hid hz2; have Hi := Lib.hid hi
  clear hz0 hz1 hz2 hi
  have WO := Lib.hid (fun W (b : Below w.heap.size w W) => rwithout_any base v u xs x.name W (hs.on b) (by omega) hu)
  obtain ⟨ys, hys⟩ : ∃ ys, ys = outR x.name xs := ⟨_, rfl⟩
  have hyl : ys.length ≤ 900 := by rw [hys]; exact Nat.le_trans (outR_le _ _) hlen
  rw [← hys] at WO
  have HYS := Lib.hid (show withR x xs = insL x ys by rw [hys]; rfl)
  obtain ⟨ua, un, uc, rfl⟩ := hu
  obtain ⟨a, cap, rfl⟩ := hs.slice
  obtain ⟨n0, hn0⟩ : ∃ n, n = xs.length := ⟨_, rfl⟩
  rw [← hn0] at WO hs ⊢
  obtain ⟨W3, hW3⟩ : ∃ W3, W3 = ((w.alloc (.cells #[.slice a n0 cap, .slice ua un uc] 52)).alloc (.cells #[.string x.name, .string x.data, .int .i64 x.tm] 64)).alloc (.cells #[.slice none 0 0, .slice none 0 0] 52) := ⟨_, rfl⟩
  have s1 : (w.alloc (.cells #[.slice a n0 cap, .slice ua un uc] 52)).heap.size = w.heap.size + 1 := by simp
  have s2 : ((w.alloc (.cells #[.slice a n0 cap, .slice ua un uc] 52)).alloc (.cells #[.string x.name, .string x.data, .int .i64 x.tm] 64)).heap.size = w.heap.size + 1 + 1 := by simp
  have z3 : W3.heap.size = w.heap.size + 3 := by rw [hW3]; simp
  have g0 : W3.heap[w.heap.size]? = some (.cells #[.slice a n0 cap, .slice ua un uc] 52) := by
    rw [hW3, Below.heap_alloc _ _ _ (by omega), Below.heap_alloc _ _ _ (by omega)]; exact heap_alloc_new w _
  have g1 : W3.heap[w.heap.size + 1]? = some (.cells #[.string x.name, .string x.data, .int .i64 x.tm] 64) := by
    have := heap_alloc_new (w.alloc (.cells #[.slice a n0 cap, .slice ua un uc] 52)) (.cells #[.string x.name, .string x.data, .int .i64 x.tm] 64)
    rw [s1] at this
    rw [hW3, Below.heap_alloc _ _ _ (by omega)]; exact this
  have g2 : W3.heap[w.heap.size + 1 + 1]? = some (.cells #[.slice none 0 0, .slice none 0 0] 52) := by
    have := heap_alloc_new ((w.alloc (.cells #[.slice a n0 cap, .slice ua un uc] 52)).alloc (.cells #[.string x.name, .string x.data, .int .i64 x.tm] 64)) (.cells #[.slice none 0 0, .slice none 0 0] 52)
    rw [s2] at this
    rw [hW3]; exact this
  have bW3 : Below w.heap.size w W3 := by rw [hW3]; exact (((Below.refl _ _).alloc (Nat.le_refl _) _).alloc (by omega) _).alloc (by omega) _
  have D0 := Lib.hid (show W3.cell? ⟨w.heap.size, 0, none⟩ = some (.slice a n0 cap) ∧ W3.cell? ⟨w.heap.size, 1, none⟩ = some (.slice ua un uc) ∧ W3.cell? ⟨w.heap.size + 1 + 1, 0, none⟩ = some (.slice none 0 0) ∧ W3.cell? ⟨w.heap.size + 1 + 1, 1, none⟩ = some (.slice none 0 0) from ⟨(cell_of_row _ _ 0 _ _ _ g0).trans rfl, (cell_of_row _ _ 1 _ _ _ g0).trans rfl, (cell_of_row _ _ 0 _ _ _ g2).trans rfl, (cell_of_row _ _ 1 _ _ _ g2).trans rfl⟩)
  have D1 := Lib.hid (show W3.cell? ⟨w.heap.size + 1, 0, none⟩ = some (.string x.name) ∧ W3.cell? ⟨w.heap.size + 1, 1, none⟩ = some (.string x.data) ∧ W3.cell? ⟨w.heap.size + 1, 2, none⟩ = some (.int .i64 x.tm) from ⟨(cell_of_row _ _ 0 _ _ _ g1).trans rfl, (cell_of_row _ _ 1 _ _ _ g1).trans rfl, (cell_of_row _ _ 2 _ _ _ g1).trans rfl⟩)
  have FR := Lib.hid (show ∀ o, W3.frozen? ⟨w.heap.size, o, none⟩ = false ∧ W3.frozen? ⟨w.heap.size + 1 + 1, o, none⟩ = false from fun o => ⟨by simp only [World.frozen?, g0]; rfl, by simp only [World.frozen?, g2]; rfl⟩)
  have G0 := Lib.hid g0; have G1 := Lib.hid g1; have G2 := Lib.hid g2; have Z3 := Lib.hid z3; have BW3 := Lib.hid bW3; have HW3 := Lib.hid hW3
  have SO := Lib.hid (show Sl (W3.alloc (.cells #[] 64)) W3.heap.size 3 (.slice (some ⟨W3.heap.size, 0, none⟩) 0 0) 0 (rjc []) from Sl.lit W3 W3.heap.size 3 0 #[] _ (Nat.le_refl _) (by decide) rfl)
  have W1 := Lib.hid (WO.out (W3.alloc (.cells #[] 64)) (bW3.alloc (by omega) _))
  clear hn0 s1 s2 z3 g0 g1 g2 bW3 hW3 hs WO hys
  unfold rbv
  go_enter Try.func69, Try.ntmps69
  go_wp2_with fail
  rw [← HW3.out]
  refine W1.out.mono ?_
  rintro e V2 ⟨v', rfl, s4, b4⟩
  obtain ⟨m, hm⟩ : ∃ m, m = ys.length := ⟨_, rfl⟩
  rw [← hm] at s4 hyl
  obtain ⟨a', cap', rfl⟩ := s4.slice
  have hm4 : (W3.alloc (Obj.cells #[] 64)).heap.size = W3.heap.size + 1 := by simp
  have WI := Lib.hid (show Wi W3.heap.size W3 V2 (.slice (some ⟨W3.heap.size, 0, none⟩) 0 0) (foldW x (ys.take 0)).2.length (rjc (foldW x (ys.take 0)).2) (.slice a' m cap') m (rjc ys) from
    ⟨SO.out.on b4, s4.mono (by omega), fun k hk hv => by
      have h1 := (s4.lt k hv).1
      have h2 : k = W3.heap.size := (Option.some.inj hk).symm
      omega, ((Below.refl _ _).alloc (Nat.le_refl _) _).trans (b4.mono (by omega)), by have := b4.size; omega⟩)
  have HM := Lib.hid hm
  clear hm s4 b4 W1 SO hm4
  unfold rbv
  have hFL := field_L a' ua m cap' un uc V2
  go_wp2_with fail
  rw [show w.heap.size + 1 + 1 + 1 = W3.heap.size by have := Z3.out; omega]
  clear hFL
  go_loopw [5, 6, 16] (fun vo vd vi wr => ∃ i : Nat, vi = .int .i64 i ∧ i ≤ m ∧ vd = .bool (foldW x (ys.take i)).1 ∧ Wi W3.heap.size W3 wr vo (foldW x (ys.take i)).2.length (rjc (foldW x (ys.take i)).2) (.slice a' m cap') m (rjc ys)) (fun _ _ vi _ => m - (RowKit.intOf vi).toNat)
  case atStart => exact ⟨0, rfl, by omega, rfl, WI.out⟩
  case round =>
    obtain ⟨i, rfl, hi, rfl, hwi⟩ := hrel
    have hll := foldW_len x (ys.take i)
    obtain ⟨d, hd⟩ : ∃ d, d = (foldW x (ys.take i)).1 := ⟨_, rfl⟩
    obtain ⟨L, hL⟩ : ∃ L, L = (foldW x (ys.take i)).2 := ⟨_, rfl⟩
    rw [← hL] at hll hwi
    rw [← hd]
    have hlt : (ys.take i).length ≤ i := by rw [List.length_take]; exact Nat.min_le_left _ _
    have hLl := Lib.hid (show L.length ≤ i + 1 by omega)
    have HF := Lib.hid (show foldW x (ys.take i) = (d, L) by rw [hd, hL])
    have hi900 := Lib.hid (show i + 1 ≤ 902 by omega)
    clear hll hlt hd hL
    by_cases him : i < m
    · obtain ⟨o, ho⟩ : ∃ o, ys[i]? = some o := ⟨ys[i]'(by have := HM.out; omega), List.getElem?_eq_getElem (by have := HM.out; omega)⟩
      have hst := insL_take x ys i o ho
      rw [HF.out] at hst
      have HST := Lib.hid hst
      obtain ⟨v0, v1, v2⟩ := rjc_at ys i o ho
      obtain ⟨gl, ol, cl, ea, _, _, _⟩ := hwi.src.somewhere (by omega)
      cases ea
      have hcl := hwi.src.cells
      have q0 := hcl (i * 3) _ v0
      rw [Addr.add_lit] at q0
      have q1 := hcl (i * 3 + 1) _ v1
      rw [Addr.add_lit] at q1
      have q2 := hcl (i * 3 + 2) _ v2
      rw [Addr.add_lit] at q2
      rw [← Nat.add_assoc] at q1 q2
      have p0 := (hwi.below.cell (p := ⟨w.heap.size + 1, 0, none⟩) (by simp only; have := Z3.out; omega)).trans D1.out.1
      have p1 := (hwi.below.cell (p := ⟨w.heap.size + 1, 1, none⟩) (by simp only; have := Z3.out; omega)).trans D1.out.2.1
      have p2 := (hwi.below.cell (p := ⟨w.heap.size + 1, 2, none⟩) (by simp only; have := Z3.out; omega)).trans D1.out.2.2
      have r1 : w.heap.size + 1 < wr.heap.size := by have := Z3.out; have := hwi.size; omega
      have him' : (i : Int) < m := by omega
      clear hcl v0 v1 v2 hst ho hi
      by_cases hdo : d = true
      · subst hdo
        have e1 : foldW x (ys.take (i + 1)) = (true, L ++ [o]) := by rw [HST.out]; simp [stepW]
        have hnn := nums L.length (Nat.le_trans hLl.out hi900.out)
        obtain ⟨va, vc, rfl⟩ := hwi.out.slice
        have n1 := hnn.1
        have n2 := hnn.2.1
        have hwz := hwi.size
        have n3 : W3.heap.size ≤ ((wr.alloc (Obj.cells #[.string o.name, .string o.data, .int .i64 o.tm] 64)).alloc (Obj.cells #[.string o.name, .string o.data, .int .i64 o.tm] 64)).heap.size := by simp only [World.size_alloc]; omega
        have hown1 : Sl ((wr.alloc (Obj.cells #[.string o.name, .string o.data, .int .i64 o.tm] 64)).alloc (Obj.cells #[.string o.name, .string o.data, .int .i64 o.tm] 64)) W3.heap.size 3 (.slice va L.length vc) L.length (rjc L) := (hwi.out.alloc _).alloc _
        have hlit1 : Sl ((wr.alloc (Obj.cells #[.string o.name, .string o.data, .int .i64 o.tm] 64)).alloc (Obj.cells #[.string o.name, .string o.data, .int .i64 o.tm] 64)) W3.heap.size 3 (.slice (some ⟨wr.heap.size + 1, 0, none⟩) 1 1) 1 [.string o.name, .string o.data, .int .i64 o.tm] := by
          have := (Sl.lit (wr.alloc (Obj.cells #[.string o.name, .string o.data, .int .i64 o.tm] 64)) W3.heap.size 3 1 #[.string o.name, .string o.data, .int .i64 o.tm] 64 (by (try simp only [World.size_alloc]); omega) (by decide) rfl)
          rw [show (wr.alloc (Obj.cells #[.string o.name, .string o.data, .int .i64 o.tm] 64)).heap.size = wr.heap.size + 1 by simp] at this
          exact this
        go_wp2_with (at_builtin; refine wpList_append_sl2 _ rfl _ _ 50 rfl W3.heap.size 64 i0 (.agg #[.string ByteArray.empty, .string ByteArray.empty, .int .i64 0]) 3 40 Try.underlying50 Hi.out Hz.out Hs.out Hb.out rfl (by decide) _ L.length _ rfl hown1 W3.heap.size _ 1 [.string o.name, .string o.data, .int .i64 o.tm] rfl hlit1 (rjc_one o) n1 n2 n3 ?_; intro v5 w5 hx5; have HX5 := Lib.hid hx5; clear hx5)
        have W5 := ((hwi.alloc (Obj.cells #[.string o.name, .string o.data, .int .i64 o.tm] 64)).alloc (Obj.cells #[.string o.name, .string o.data, .int .i64 o.tm] 64)).ext HX5.out
        refine ⟨⟨i + 1, by go_num, by omega, by rw [e1], ?_⟩, by simp [RowKit.intOf]; omega⟩
        rw [e1]
        dsimp only
        rw [List.length_append, rjc_append]
        exact W5
      · obtain rfl : d = false := by simpa using hdo
        clear hdo
        by_cases hlt : bl x.name < bl o.name
        · have hb := bgt_true hlt
          have e1 : foldW x (ys.take (i + 1)) = (true, L ++ [x, o]) := by rw [HST.out]; simp [stepW, hlt]
          clear hlt
          have hnn := nums L.length (Nat.le_trans hLl.out hi900.out)
          obtain ⟨va, vc, rfl⟩ := hwi.out.slice
          have n1 := hnn.1
          have n2 := hnn.2.1
          have n1' := hnn.2.2.1
          have n2' := hnn.2.2.2
          have hwz := hwi.size
          have n3 : W3.heap.size ≤ ((wr.alloc (Obj.cells #[.string o.name, .string o.data, .int .i64 o.tm] 64)).alloc (Obj.cells #[.string x.name, .string x.data, .int .i64 x.tm] 64)).heap.size := by simp only [World.size_alloc]; omega
          have hown1 : Sl ((wr.alloc (Obj.cells #[.string o.name, .string o.data, .int .i64 o.tm] 64)).alloc (Obj.cells #[.string x.name, .string x.data, .int .i64 x.tm] 64)) W3.heap.size 3 (.slice va L.length vc) L.length (rjc L) := (hwi.out.alloc _).alloc _
          have hlit1 : Sl ((wr.alloc (Obj.cells #[.string o.name, .string o.data, .int .i64 o.tm] 64)).alloc (Obj.cells #[.string x.name, .string x.data, .int .i64 x.tm] 64)) W3.heap.size 3 (.slice (some ⟨wr.heap.size + 1, 0, none⟩) 1 1) 1 [.string x.name, .string x.data, .int .i64 x.tm] := by
            have := (Sl.lit (wr.alloc (Obj.cells #[.string o.name, .string o.data, .int .i64 o.tm] 64)) W3.heap.size 3 1 #[.string x.name, .string x.data, .int .i64 x.tm] 64 (by (try simp only [World.size_alloc]); omega) (by decide) rfl)
            rw [show (wr.alloc (Obj.cells #[.string o.name, .string o.data, .int .i64 o.tm] 64)).heap.size = wr.heap.size + 1 by simp] at this
            exact this
          have hone := rjc_one x
          have hone' := rjc_one o
          go_wp2_with (at_builtin; first
            | (refine wpList_append_sl2 _ rfl _ _ 50 rfl W3.heap.size 64 i0 (.agg #[.string ByteArray.empty, .string ByteArray.empty, .int .i64 0]) 3 40 Try.underlying50 Hi.out Hz.out Hs.out Hb.out rfl (by decide) _ L.length _ rfl hown1 W3.heap.size _ 1 [.string x.name, .string x.data, .int .i64 x.tm] rfl hlit1 hone n1 n2 n3 ?_; intro v5 w5 hx5; have W5 := ((hwi.alloc (Obj.cells #[.string o.name, .string o.data, .int .i64 o.tm] 64)).alloc (Obj.cells #[.string x.name, .string x.data, .int .i64 x.tm] 64)).ext hx5; have hbox : w5.heap[wr.heap.size]? = some (Obj.cells #[.string o.name, .string o.data, .int .i64 o.tm] 64) := wi_box hwi hx5; have t0 := (cell_of_row _ _ 0 _ _ _ hbox).trans rfl; have t1 := (cell_of_row _ _ 1 _ _ _ hbox).trans rfl; have t2 := (cell_of_row _ _ 2 _ _ _ hbox).trans rfl; clear hbox hx5; obtain ⟨va5, vc5, rfl⟩ := W5.out.slice; have hown2 := W5.out.alloc (Obj.cells #[.string o.name, .string o.data, .int .i64 o.tm] 64); have hw5 := W5.size; have hlit2 := (Sl.lit w5 W3.heap.size 3 1 #[.string o.name, .string o.data, .int .i64 o.tm] 64 (by (try simp only [World.size_alloc]); omega) (by decide) rfl); have n3' : W3.heap.size ≤ (w5.alloc (Obj.cells #[.string o.name, .string o.data, .int .i64 o.tm] 64)).heap.size := (by simp only [World.size_alloc]; omega); have HW5 := Lib.hid W5; clear W5)
            | (refine wpList_append_sl2 _ rfl _ _ 50 rfl W3.heap.size 64 i0 (.agg #[.string ByteArray.empty, .string ByteArray.empty, .int .i64 0]) 3 40 Try.underlying50 Hi.out Hz.out Hs.out Hb.out rfl (by decide) _ (L.length + 1) _ rfl hown2 W3.heap.size _ 1 [.string o.name, .string o.data, .int .i64 o.tm] rfl hlit2 hone' n1' n2' n3' ?_; intro v6 w6 hx6; have HX6 := Lib.hid hx6; clear hx6))
          have W6 := (HW5.out.alloc (Obj.cells #[.string o.name, .string o.data, .int .i64 o.tm] 64)).ext HX6.out
          refine ⟨⟨i + 1, by go_num, by omega, by rw [e1], ?_⟩, by simp [RowKit.intOf]; omega⟩
          rw [e1]
          dsimp only
          rw [show (L ++ [x, o]).length = L.length + 1 + 1 by simp, show rjc (L ++ [x, o]) = rjc L ++ encRj x ++ encRj o by simp [rjc]]
          exact W6
        · have hb := bgt_false hlt
          have e1 : foldW x (ys.take (i + 1)) = (false, L ++ [o]) := by rw [HST.out]; simp [stepW, hlt]
          clear hlt
          have hnn := nums L.length (Nat.le_trans hLl.out hi900.out)
          obtain ⟨va, vc, rfl⟩ := hwi.out.slice
          have n1 := hnn.1
          have n2 := hnn.2.1
          have hwz := hwi.size
          have n3 : W3.heap.size ≤ ((wr.alloc (Obj.cells #[.string o.name, .string o.data, .int .i64 o.tm] 64)).alloc (Obj.cells #[.string o.name, .string o.data, .int .i64 o.tm] 64)).heap.size := by simp only [World.size_alloc]; omega
          have hown1 : Sl ((wr.alloc (Obj.cells #[.string o.name, .string o.data, .int .i64 o.tm] 64)).alloc (Obj.cells #[.string o.name, .string o.data, .int .i64 o.tm] 64)) W3.heap.size 3 (.slice va L.length vc) L.length (rjc L) := (hwi.out.alloc _).alloc _
          have hlit1 : Sl ((wr.alloc (Obj.cells #[.string o.name, .string o.data, .int .i64 o.tm] 64)).alloc (Obj.cells #[.string o.name, .string o.data, .int .i64 o.tm] 64)) W3.heap.size 3 (.slice (some ⟨wr.heap.size + 1, 0, none⟩) 1 1) 1 [.string o.name, .string o.data, .int .i64 o.tm] := by
            have := (Sl.lit (wr.alloc (Obj.cells #[.string o.name, .string o.data, .int .i64 o.tm] 64)) W3.heap.size 3 1 #[.string o.name, .string o.data, .int .i64 o.tm] 64 (by (try simp only [World.size_alloc]); omega) (by decide) rfl)
            rw [show (wr.alloc (Obj.cells #[.string o.name, .string o.data, .int .i64 o.tm] 64)).heap.size = wr.heap.size + 1 by simp] at this
            exact this
          go_wp2_with (at_builtin; refine wpList_append_sl2 _ rfl _ _ 50 rfl W3.heap.size 64 i0 (.agg #[.string ByteArray.empty, .string ByteArray.empty, .int .i64 0]) 3 40 Try.underlying50 Hi.out Hz.out Hs.out Hb.out rfl (by decide) _ L.length _ rfl hown1 W3.heap.size _ 1 [.string o.name, .string o.data, .int .i64 o.tm] rfl hlit1 (rjc_one o) n1 n2 n3 ?_; intro v5 w5 hx5; have HX5 := Lib.hid hx5; clear hx5)
          have W5 := ((hwi.alloc (Obj.cells #[.string o.name, .string o.data, .int .i64 o.tm] 64)).alloc (Obj.cells #[.string o.name, .string o.data, .int .i64 o.tm] 64)).ext HX5.out
          refine ⟨⟨i + 1, by go_num, by omega, by rw [e1], ?_⟩, by simp [RowKit.intOf]; omega⟩
          rw [e1]
          dsimp only
          rw [List.length_append, rjc_append]
          exact W5
    · have him' : ¬ (i : Int) < m := by omega
      obtain rfl : i = m := by omega
      have e8 := foldW_is x ys
      rw [show ys.take i = ys from List.take_of_length_le (by have := HM.out; omega)] at HF
      rw [HF.out] at e8
      dsimp only at e8
      obtain ⟨va, vc, rfl⟩ := hwi.out.slice
      have hso := hwi.out
      by_cases hdo : d = true
      · subst hdo
        have e9 := e8.symm
        rw [if_pos rfl] at e9
        have bz := hwi.below
        have zz := Z3.out
        have k0 := (bz.cell (p := ⟨w.heap.size, 0, none⟩) (by simp only; omega)).trans D0.out.1
        have k1 := (bz.cell (p := ⟨w.heap.size, 1, none⟩) (by simp only; omega)).trans D0.out.2.1
        have k2 := (bz.cell (p := ⟨w.heap.size + 1 + 1, 0, none⟩) (by simp only; omega)).trans D0.out.2.2.1
        have k3 := (bz.cell (p := ⟨w.heap.size + 1 + 1, 1, none⟩) (by simp only; omega)).trans D0.out.2.2.2
        have f0 := (bz.frozen (p := ⟨w.heap.size, 0, none⟩) (by simp only; omega)).trans (FR.out 0).1
        have f2 := (bz.frozen (p := ⟨w.heap.size + 1 + 1, 0, none⟩) (by simp only; omega)).trans (FR.out 0).2
        have f3 := (bz.frozen (p := ⟨w.heap.size + 1 + 1, 1, none⟩) (by simp only; omega)).trans (FR.out 1).2
        clear e8 zz
        go_wp2_with fail
        have z3 := Z3.out
        obtain ⟨W6, hW6⟩ : ∃ W6, W6 = ((wr.setCell ⟨w.heap.size, 0, none⟩ (.slice va L.length vc)).setCell ⟨w.heap.size + 1 + 1, 0, none⟩ (.slice va L.length vc)).setCell ⟨w.heap.size + 1 + 1, 1, none⟩ (.slice ua un uc) := ⟨_, rfl⟩
        have hne : w.heap.size + 1 + 1 ≠ w.heap.size := by omega
        have c0 : W6.cell? ⟨w.heap.size + 1 + 1, 0, none⟩ = some (.slice va L.length vc) := by
          rw [hW6, cell_setCell_other _ _ _ _ _ (.inr (by simp))]
          exact cell_setCell_same _ _ _ _ (by rw [cell_setCell_other _ _ _ _ _ (.inl hne), k2]; rfl)
        have c1 : W6.cell? ⟨w.heap.size + 1 + 1, 1, none⟩ = some (.slice ua un uc) := by
          rw [hW6]
          exact cell_setCell_same _ _ _ _ (by rw [cell_setCell_other _ _ _ _ _ (.inr (by simp)), cell_setCell_other _ _ _ _ _ (.inl hne), k3]; rfl)
        have hs6 : Sl W6 w.heap.size 3 (.slice va L.length vc) L.length (rjc L) := by
          rw [hW6]
          refine (hso.mono (by omega)).same (by simp [World.setCell]) fun i hi => ?_
          have hlt := (hso.lt i hi).1
          rw [Below.heap_setCell _ _ _ _ (by simp only; omega), Below.heap_setCell _ _ _ _ (by simp only; omega), Below.heap_setCell _ _ _ _ (by simp only; omega)]
        have hb6 : Below w.heap.size w W6 := by
          rw [hW6]
          exact (((BW3.out.trans (bz.mono (by omega))).setCell (p := ⟨w.heap.size, 0, none⟩) (Nat.le_refl _) _).setCell (p := ⟨w.heap.size + 1 + 1, 0, none⟩) (by simp only; omega) _).setCell (p := ⟨w.heap.size + 1 + 1, 1, none⟩) (by simp only; omega) _
        rw [← hW6]
        refine bodyPost_ret (by simp [results, Try.results69, go_sem, c0, c1]; rfl) rfl ?_
        exact ⟨_, rfl, by rw [HYS.out, e9]; exact hs6, hb6⟩
      · obtain rfl : d = false := by simpa using hdo
        clear hdo
        have e9 := e8.symm
        rw [if_neg (by simp)] at e9
        have hnn := nums L.length (Nat.le_trans hLl.out hi900.out)
        have n1 := hnn.1
        have n2 := hnn.2.1
        have hwz := hwi.size
        have n3 : W3.heap.size ≤ (wr.alloc (Obj.cells #[.string x.name, .string x.data, .int .i64 x.tm] 64)).heap.size := by simp only [World.size_alloc]; omega
        have hown1 := hwi.out.alloc (Obj.cells #[.string x.name, .string x.data, .int .i64 x.tm] 64)
        have hlit1 := (Sl.lit wr W3.heap.size 3 1 #[.string x.name, .string x.data, .int .i64 x.tm] 64 (by (try simp only [World.size_alloc]); omega) (by decide) rfl)
        have hone := rjc_one x
        have p0 := (hwi.below.cell (p := ⟨w.heap.size + 1, 0, none⟩) (by simp only; have := Z3.out; omega)).trans D1.out.1
        have p1 := (hwi.below.cell (p := ⟨w.heap.size + 1, 1, none⟩) (by simp only; have := Z3.out; omega)).trans D1.out.2.1
        have p2 := (hwi.below.cell (p := ⟨w.heap.size + 1, 2, none⟩) (by simp only; have := Z3.out; omega)).trans D1.out.2.2
        clear e8 hso hwz hnn
        go_wp2_with (at_builtin; refine wpList_append_sl2 _ rfl _ _ 50 rfl W3.heap.size 64 i0 (.agg #[.string ByteArray.empty, .string ByteArray.empty, .int .i64 0]) 3 40 Try.underlying50 Hi.out Hz.out Hs.out Hb.out rfl (by decide) _ L.length _ rfl hown1 W3.heap.size _ 1 [.string x.name, .string x.data, .int .i64 x.tm] rfl hlit1 hone n1 n2 n3 ?_; intro v5 w5 hx5; have W5 := (hwi.alloc (Obj.cells #[.string x.name, .string x.data, .int .i64 x.tm] 64)).ext hx5; clear hx5; have bz := W5.below; have zz := Z3.out; have k0 := (bz.cell (p := ⟨w.heap.size, 0, none⟩) (by simp only; omega)).trans D0.out.1; have k1 := (bz.cell (p := ⟨w.heap.size, 1, none⟩) (by simp only; omega)).trans D0.out.2.1; have k2 := (bz.cell (p := ⟨w.heap.size + 1 + 1, 0, none⟩) (by simp only; omega)).trans D0.out.2.2.1; have k3 := (bz.cell (p := ⟨w.heap.size + 1 + 1, 1, none⟩) (by simp only; omega)).trans D0.out.2.2.2; have f0 := (bz.frozen (p := ⟨w.heap.size, 0, none⟩) (by simp only; omega)).trans (FR.out 0).1; have f2 := (bz.frozen (p := ⟨w.heap.size + 1 + 1, 0, none⟩) (by simp only; omega)).trans (FR.out 0).2; have f3 := (bz.frozen (p := ⟨w.heap.size + 1 + 1, 1, none⟩) (by simp only; omega)).trans (FR.out 1).2; clear zz; obtain ⟨va5, vc5, rfl⟩ := W5.out.slice; have hso := W5.out; have HBZ := Lib.hid bz; have HSO := Lib.hid hso; clear W5 bz hso)
        have bz := HBZ.out
        have hso := HSO.out
        have z3 := Z3.out
        obtain ⟨W6, hW6⟩ : ∃ W6, W6 = ((w5.setCell ⟨w.heap.size, 0, none⟩ (.slice va5 (L.length + 1) vc5)).setCell ⟨w.heap.size + 1 + 1, 0, none⟩ (.slice va5 (L.length + 1) vc5)).setCell ⟨w.heap.size + 1 + 1, 1, none⟩ (.slice ua un uc) := ⟨_, rfl⟩
        have hne : w.heap.size + 1 + 1 ≠ w.heap.size := by omega
        have c0 : W6.cell? ⟨w.heap.size + 1 + 1, 0, none⟩ = some (.slice va5 (L.length + 1) vc5) := by
          rw [hW6, cell_setCell_other _ _ _ _ _ (.inr (by simp))]
          exact cell_setCell_same _ _ _ _ (by rw [cell_setCell_other _ _ _ _ _ (.inl hne), k2]; rfl)
        have c1 : W6.cell? ⟨w.heap.size + 1 + 1, 1, none⟩ = some (.slice ua un uc) := by
          rw [hW6]
          exact cell_setCell_same _ _ _ _ (by rw [cell_setCell_other _ _ _ _ _ (.inr (by simp)), cell_setCell_other _ _ _ _ _ (.inl hne), k3]; rfl)
        have hs6 : Sl W6 w.heap.size 3 (.slice va5 (L.length + 1) vc5) (L.length + 1) (rjc L ++ encRj x) := by
          rw [hW6]
          refine (hso.mono (by omega)).same (by simp [World.setCell]) fun i hi => ?_
          have hlt := (hso.lt i hi).1
          rw [Below.heap_setCell _ _ _ _ (by simp only; omega), Below.heap_setCell _ _ _ _ (by simp only; omega), Below.heap_setCell _ _ _ _ (by simp only; omega)]
        have hb6 : Below w.heap.size w W6 := by
          rw [hW6]
          exact (((BW3.out.trans (bz.mono (by omega))).setCell (p := ⟨w.heap.size, 0, none⟩) (Nat.le_refl _) _).setCell (p := ⟨w.heap.size + 1 + 1, 0, none⟩) (by simp only; omega) _).setCell (p := ⟨w.heap.size + 1 + 1, 1, none⟩) (by simp only; omega) _
        rw [← hW6]
        refine bodyPost_ret (by simp [results, Try.results69, go_sem, c0, c1]; rfl) rfl ?_
        exact ⟨_, rfl, by rw [HYS.out, e9]; rw [show (L ++ [x]).length = L.length + 1 by simp, show rjc (L ++ [x]) = rjc L ++ encRj x by simp [rjc]]; exact hs6, hb6⟩
end Go.Proofs.Ytnjoojffefhgpaa

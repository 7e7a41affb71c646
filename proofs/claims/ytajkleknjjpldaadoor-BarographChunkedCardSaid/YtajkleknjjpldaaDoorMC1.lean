/- Layer 3's rows, walked. -/
import Derived.Test.YtajkleknjjpldaaDoorMB0
import Derived.Test.YtajkleknjjpldaaDoorMBitM
namespace Go.Proofs.YtajkleknjjpldaaDoor
open Go.RowKit Go.Lib

/-- A row of bits lies in block r; its bytes, the slice v, in block B or behind. -/
structure RowV (B r : Nat) (v : Value) (l : List Bool) (w : World) : Prop where
  lt : r < B
  hB : B ≤ w.heap.size
  bytes : Sl w B 1 v (Bt.pack l).length (cb (Bt.pack l))
  c0 : w.cell? ⟨r, 0, none⟩ = some v
  len : w.cell? ⟨r, 1, none⟩ = some (.int .i64 l.length)
  f0 : w.frozen? ⟨r, 0, none⟩ = false
  f1 : w.frozen? ⟨r, 1, none⟩ = false

/-- What a row's own calls turn: its block, and the memory of its bytes. -/
structure Chg (B r : Nat) (v v' : Value) (w w' : World) : Prop where
  keep : Keep B r w w'
  mine : ∀ k, k < w.heap.size → k ≠ r → v.ownBlock ≠ some k → w'.heap[k]? = w.heap[k]?
  fresh : v'.ownBlock = v.ownBlock ∨ ∀ k, v'.ownBlock = some k → w.heap.size ≤ k
theorem Chg.refl (B r : Nat) (v : Value) (w : World) : Chg B r v v w w := ⟨Keep.refl _ _ _, fun _ _ _ _ => rfl, .inl rfl⟩
theorem Chg.trans {B r : Nat} {v v1 v2 : Value} {w w1 w2 : World} (h : Chg B r v v1 w w1) (k : Chg B r v1 v2 w1 w2) : Chg B r v v2 w w2 := by
  have hs := h.keep.size
  refine ⟨h.keep.trans k.keep, fun i hi hr hv => ?_, ?_⟩
  · rw [k.mine i (by omega) hr ?_, h.mine i hi hr hv]
    rcases h.fresh with e | f
    · rw [e]; exact hv
    · intro e; have := f i e; omega
  · rcases k.fresh with e | f
    · rw [e]
      exact h.fresh
    · exact .inr fun i hi => by have := f i hi; omega

/-- The row holds l now. -/
def Wr (B r : Nat) (v : Value) (l : List Bool) (w w' : World) : Prop := ∃ v', RowV B r v' l w' ∧ Chg B r v v' w w'
theorem Wr.trans {B r : Nat} {v v1 : Value} {l : List Bool} {w w1 w2 : World} (h : Chg B r v v1 w w1) (k : Wr B r v1 l w1 w2) : Wr B r v l w w2 := by
  obtain ⟨v2, h2, c2⟩ := k
  exact ⟨v2, h2, h.trans c2⟩

theorem ext_mine {base size : Nat} {w w1 : World} {o : Obj} {v v' : Value} {n n' : Nat} {xs xs' : List Value} (hx : Ext base size (w.alloc o) v n xs w1 v' n' xs') (hv : ∀ k, v.ownBlock = some k → k < w.heap.size) :
    (∀ k, k < w.heap.size → v.ownBlock ≠ some k → w1.heap[k]? = w.heap[k]?) ∧ (v'.ownBlock = v.ownBlock ∨ ∀ k, v'.ownBlock = some k → w.heap.size ≤ k) := by
  refine ⟨fun k hk hne => (hx.grown.block k (by simp; omega) (Ne.symm hne)).trans (Below.heap_alloc w o k hk), ?_⟩
  rcases hx.alias with ⟨a, cap, rfl, rfl, _⟩ | hf
  · exact .inl (ownBlock_slice _ _ _ _ _)
  · exact .inr fun k hk => by have := hf k hk; simp at this; omega

theorem Bt.or_set (l : List Bool) (n : Nat) (X : UInt8) (_hn : n = l.length) (hX : X = UInt8.ofNat (Bt.byteAt l (n / 8))) :
    bits BinOp.or IntKind.u8 (X.toNat : Int) (128 / 2 ^ (n % 8)) = (((UInt8.ofNat (Bt.byteAt l (n / 8) ||| (128 / 2 ^ (n % 8)))).toNat : Nat) : Int) := by
  have h1 : Bt.byteAt l (n / 8) < 256 := by unfold Bt.byteAt; exact Bt.oct_lt _
  have h2 : 128 / 2 ^ (n % 8) < 256 := Nat.lt_of_le_of_lt (Nat.div_le_self _ _) (by decide)
  rw [hX, Bt.toNat_ofNat _ h1, Bt.toNat_ofNat _ (Nat.or_lt_two_pow (n := 8) h1 h2)]
  have := u8_or_nat (Bt.byteAt l (n / 8)) (128 / 2 ^ (n % 8)) h1 h2
  rw [← this]
  congr 1

theorem count_any (n : Int) (w : World) (h0 : -9223372036854775808 ≤ n) (h1 : n ≤ 9223372036854775807) :
    Calls Tryd.prog 55 #[.int .i64 n] w fun e w' => e = .returned (.int .i64 (min (max n 0) 64)) ∧ w = w' := by
  rcases (by omega : n < 0 ∨ (0 ≤ n ∧ n ≤ 64) ∨ 64 < n) with h | h | h
  · rw [show min (max n 0) 64 = 0 by omega]
    go_enter Tryd.func55, Tryd.ntmps55
    go_wp2
    go_ret
    exact ⟨rfl, rfl⟩
  · have h' := Lib.hid (show min (max n 0) 64 = n by omega)
    obtain ⟨x, hx⟩ : ∃ x, x = min (max n 0) 64 := ⟨_, rfl⟩
    rw [← hx] at h' ⊢
    clear hx
    go_enter Tryd.func55, Tryd.ntmps55
    go_wp2
    go_ret
    exact ⟨by rw [h'.out]; rfl, rfl⟩
  · rw [show min (max n 0) 64 = 64 by omega]
    go_enter Tryd.func55, Tryd.ntmps55
    go_wp2
    go_ret
    exact ⟨rfl, rfl⟩

theorem rlen_any (B r : Nat) (v : Value) (l : List Bool) (w : World) (h : RowV B r v l w) :
    Calls Tryd.prog 27 #[.pointer (some ⟨r, 0, none⟩)] w fun e w' => e = .returned (.int .i64 l.length) ∧ w = w' := by
  have h1 := h.len
  go_enter Tryd.func27, Tryd.ntmps27
  go_wp2
  go_ret
  exact ⟨rfl, rfl⟩

theorem rtext_any (B r : Nat) (v : Value) (l : List Bool) (w : World) (h : RowV B r v l w) :
    Calls Tryd.prog 28 #[.pointer (some ⟨r, 0, none⟩)] w fun e w' => e = .returned (.string (bs (Bt.pack l))) ∧ w = w' := by
  obtain ⟨hs, h0⟩ := And.intro h.bytes h.c0
  have hc := text_conv hs
  go_enter Tryd.func28, Tryd.ntmps28
  go_wp2
  go_ret
  exact ⟨rfl, rfl⟩

/-- The length is stored: the row is whole. -/
theorem RowV.done {B r n : Nat} {l : List Bool} {w : World} {v : Value} {x : Int} (hlt : r < B) (hB : B ≤ w.heap.size) (hs : Sl w B 1 v n (cb (Bt.pack l))) (h0 : w.cell? ⟨r, 0, none⟩ = some v) (h1 : (w.cell? ⟨r, 1, none⟩).isSome = true)
    (f0 : w.frozen? ⟨r, 0, none⟩ = false) (f1 : w.frozen? ⟨r, 1, none⟩ = false) (hx : x = (l.length : Int)) : RowV B r v l (w.setCell ⟨r, 1, none⟩ (.int .i64 x)) := by
  subst hx
  have hn : n = (Bt.pack l).length := by have := hs.1; rw [cb_length] at this; omega
  subst hn
  exact ⟨hlt, by simpa [World.setCell] using hB, sl_else hs _ _ hlt, by rw [cell_setCell_other _ _ _ _ _ (.inr (by simp))]; exact h0, cell_setCell_same _ _ _ _ h1, by rw [frozen_setCell]; exact f0, by rw [frozen_setCell]; exact f1⟩

theorem Sl.some {w : World} {base size : Nat} {v : Value} {n : Nat} {xs : List Value} (h : Sl w base size v n xs) (hn : 0 < n) : ∃ g off cap, v = .slice (.some ⟨g, off, .none⟩) n cap ∧ base ≤ g ∧ n ≤ cap ∧ cap ≤ maxLen := h.somewhere hn

set_option maxRecDepth 100000 in
theorem bit0_any (B r : Nat) (v : Value) (l : List Bool) (w : World) (h : RowV B r v l w) (hl : l.length ≤ 1000000) :
    Calls Tryd.prog 56 #[.pointer (some ⟨r, 0, none⟩), .bool false] w fun e w' => e = .returned (.tuple #[]) ∧ Wr B r v (l ++ [false]) w w' := by
  obtain ⟨i0, hi, hz0, hz1, hz2⟩ := info_parts bi_u8
  have Hz := Lib.hid hz0; have Hs := Lib.hid hz1; have Hb := Lib.hid hz2; have Hi := Lib.hid hi
  clear hz0 hz1 hz2 hi
  obtain ⟨hs, h0⟩ := And.intro h.bytes h.c0
  have h1 := h.len
  obtain ⟨f0, f1⟩ := And.intro h.f0 h.f1
  obtain ⟨hlt, hB⟩ := And.intro h.lt h.hB
  have hp := Bt.pack_length l
  obtain ⟨n, hn⟩ : ∃ n, n = l.length := ⟨_, rfl⟩
  obtain ⟨P, hP⟩ : ∃ P, P = Bt.pack l := ⟨_, rfl⟩
  rw [← hn] at h1 hl hp
  rw [← hP] at hs hp
  have HN := Lib.hid hn; have HP := Lib.hid hP; clear hn hP
  by_cases hm : n % 8 = 0
  · have hpl : P.length ≤ 130000 := by omega
    go_enter Tryd.func56, Tryd.ntmps56
    go_wp2_with (at_builtin; refine wpList_append_sl _ rfl _ _ 28 rfl B 5 i0 (.int .u8 0) 1 1 Tryd.underlying28 Hi.out Hz.out Hs.out Hb.out rfl (by decide) _ _ _ rfl (hs.alloc _) ⟨w.heap.size, 0, none⟩ 1 1 [_] rfl rfl (cell_one_new _ _ _) (by simp [Value.oneCell']) (by unfold maxLen; omega) (by omega) (by simp; omega) ?_; intro v' w1 hx; have hbel : Below B w w1 := ((Below.refl B w).alloc hB _).trans (hx.below (Nat.le_refl _) (by simp; omega)); have k0 := (hbel.cell (p := ⟨r, 0, none⟩) hlt).trans h0; have k1 := (hbel.cell (p := ⟨r, 1, none⟩) hlt).trans h1; have g0 := (hbel.frozen (p := ⟨r, 0, none⟩) hlt).trans f0; have g1 := (hbel.frozen (p := ⟨r, 1, none⟩) hlt).trans f1; have hnow := hx.now; have hmine := Lib.hid (ext_mine hx (fun k hk => (hs.lt k hk).2)); obtain ⟨g, off, cap, rfl, hg, hcap, hmax⟩ := hnow.some (by omega); clear hx)
    go_end0
    have hsz := hbel.size
    refine ⟨rfl, .slice (some ⟨g, off, none⟩) ((n + 7) / 8 + 1) cap, RowV.done hlt (by simp [World.setCell]; omega) (n := (n + 7) / 8 + 1) ?_ ?_ ?_ ?_ ?_ ?_, ⟨?_, fun k hk hr hv => ?_, hmine.out.2⟩⟩
    · have h2 : cb P ++ [Value.int .u8 0] = cb (Bt.pack (l ++ [false])) := by
        rw [Bt.pack_zero_new l (by rw [← HN.out]; exact hm), ← HP.out, cb_append]; rfl
      have := sl_else hnow ⟨r, 0, none⟩ (.slice (some ⟨g, off, none⟩) ((n + 7) / 8 + 1) cap) hlt
      rw [h2, hp] at this
      exact this
    · exact cell_setCell_same _ _ _ _ (by rw [k0]; rfl)
    · rw [cell_setCell_other _ _ _ _ _ (.inr (by simp)), k1]; rfl
    · rw [frozen_setCell]; exact g0
    · rw [frozen_setCell]; exact g1
    · rw [List.length_append, ← HN.out]; simp
    · exact ((Keep.of_below hbel).setCell (p := ⟨r, 0, none⟩) (.inr rfl) _).setCell (p := ⟨r, 1, none⟩) (.inr rfl) _
    · rw [Below.heap_setCell _ _ _ _ hr, Below.heap_setCell _ _ _ _ hr]
      exact hmine.out.1 k hk hv
  · go_enter Tryd.func56, Tryd.ntmps56
    go_wp2
    go_end0
    refine ⟨rfl, v, RowV.done hlt hB (n := P.length) ?_ h0 ?_ f0 f1 ?_, ⟨?_, fun k hk hr hv => Below.heap_setCell _ _ _ _ hr, .inl rfl⟩⟩
    · rw [Bt.pack_zero_old l (by rw [← HN.out]; exact hm), ← HP.out]
      exact hs
    · rw [h1]; rfl
    · rw [List.length_append, ← HN.out]; simp
    · exact (Keep.refl B r w).setCell (.inr rfl) _

set_option maxRecDepth 100000 in
theorem bit1_old (B r : Nat) (v : Value) (l : List Bool) (w : World) (h : RowV B r v l w) (hl : l.length ≤ 1000000) (hm : l.length % 8 ≠ 0) :
    Calls Tryd.prog 56 #[.pointer (some ⟨r, 0, none⟩), .bool true] w fun e w' => e = .returned (.tuple #[]) ∧ Wr B r v (l ++ [true]) w w' := by
  obtain ⟨hs, h0⟩ := And.intro h.bytes h.c0
  have h1 := h.len
  obtain ⟨f0, f1⟩ := And.intro h.f0 h.f1
  obtain ⟨hlt, hB⟩ := And.intro h.lt h.hB
  have hp := Bt.pack_length l
  have hx : (Bt.pack l)[l.length / 8]? = some (UInt8.ofNat (Bt.byteAt l (l.length / 8))) := by
    simp only [Bt.pack, List.getElem?_map, List.getElem?_range (show l.length / 8 < (l.length + 7) / 8 by omega), Option.map_some]
  obtain ⟨n, hn⟩ : ∃ n, n = l.length := ⟨_, rfl⟩
  obtain ⟨P, hP⟩ : ∃ P, P = Bt.pack l := ⟨_, rfl⟩
  rw [← hn] at h1 hl hp hm
  rw [← hP] at hs hp hx
  rw [← hn] at hx
  have HN := Lib.hid hn; have HP := Lib.hid hP; clear hn hP
  obtain ⟨X, hX⟩ : ∃ X, X = UInt8.ofNat (Bt.byteAt l (n / 8)) := ⟨_, rfl⟩
  rw [← hX] at hx
  obtain ⟨g, off, cap, rfl, hg, hcap, hmax⟩ := hs.some (by omega)
  have c0 := sl_cell hs _ _ hx
  have fz : w.frozen? ⟨g, off + n / 8, none⟩ = false := by
    rcases hs.2 with ⟨h0, _⟩ | ⟨g', off', cap', he, _, _, _, _, hfree, _⟩
    · cases h0
    · cases he
      exact (hfree _ (by omega)).2
  have HX := Lib.hid hX; have Hx := Lib.hid hx; clear hX hx
  have hgr : g ≠ r := by omega
  go_enter Tryd.func56, Tryd.ntmps56
  go_wp2
  go_region
  go_wp2
  go_end0
  have hxor := Bt.or_set l n X HN.out HX.out
  rw [hxor]
  have hset := sl_set hs (UInt8.ofNat (Bt.byteAt l (n / 8) ||| (128 / 2 ^ (n % 8)))) (c := n / 8) (by omega)
  have hpk : P.set (n / 8) (UInt8.ofNat (Bt.byteAt l (n / 8) ||| (128 / 2 ^ (n % 8)))) = Bt.pack (l ++ [true]) := by
    rw [Bt.pack_one, Bt.pack_zero_old l (by rw [← HN.out]; exact hm), ← HP.out, ← HN.out]
  rw [hpk] at hset
  refine ⟨rfl, _, RowV.done (w := (w.setCell ⟨g, off + n / 8, none⟩ _).drew) hlt (by simp [World.setCell]; exact hB) hset ?_ ?_ ?_ ?_ ?_, ⟨?_, fun k hk hr hv => ?_, .inl rfl⟩⟩
  · refine (cell_setCell_other _ _ _ _ _ (.inl (by simp only; omega))).trans ?_
    rw [h0]
  · refine Eq.trans (congrArg Option.isSome (cell_setCell_other _ _ _ _ _ (.inl (by simp only; omega)))) ?_
    rw [h1]; rfl
  · exact (frozen_setCell _ _ _ _ _).trans f0
  · exact (frozen_setCell _ _ _ _ _).trans f1
  · rw [List.length_append, ← HN.out]; simp
  · exact (((Keep.refl B r w).setCell (p := ⟨g, off + n / 8, none⟩) (.inl hg) _).drew).setCell (p := ⟨r, 1, none⟩) (.inr rfl) _
  · have hkg : k ≠ g := fun e => hv (by rw [e]; rfl)
    exact (Below.heap_setCell _ _ _ _ hr).trans (Below.heap_setCell w ⟨g, off + n / 8, none⟩ _ k hkg)

set_option maxRecDepth 100000 in
theorem bit1_new (B r : Nat) (v : Value) (l : List Bool) (w : World) (h : RowV B r v l w) (hl : l.length ≤ 1000000) (hm : l.length % 8 = 0) :
    Calls Tryd.prog 56 #[.pointer (some ⟨r, 0, none⟩), .bool true] w fun e w' => e = .returned (.tuple #[]) ∧ Wr B r v (l ++ [true]) w w' := by
  obtain ⟨i0, hi, hz0, hz1, hz2⟩ := info_parts bi_u8
  have Hz := Lib.hid hz0; have Hs := Lib.hid hz1; have Hb := Lib.hid hz2; have Hi := Lib.hid hi
  clear hz0 hz1 hz2 hi
  obtain ⟨hs, h0⟩ := And.intro h.bytes h.c0
  have h1 := h.len
  obtain ⟨f0, f1⟩ := And.intro h.f0 h.f1
  obtain ⟨hlt, hB⟩ := And.intro h.lt h.hB
  have hp := Bt.pack_length l
  obtain ⟨n, hn⟩ : ∃ n, n = l.length := ⟨_, rfl⟩
  obtain ⟨P, hP⟩ : ∃ P, P = Bt.pack l := ⟨_, rfl⟩
  rw [← hn] at h1 hl hp hm
  rw [← hP] at hs hp
  have hP2 : Bt.pack (l ++ [false]) = P ++ [0] := by rw [Bt.pack_zero_new l (by rw [← hn]; exact hm), ← hP]
  have hby : Bt.byteAt l (n / 8) = 0 := by rw [hn]; exact Bt.byteAt_past l _ (by omega)
  have HN := Lib.hid hn; have HP := Lib.hid hP; clear hn hP
  have hpl : P.length ≤ 130000 := by omega
  go_enter Tryd.func56, Tryd.ntmps56
  go_wp2_with (at_builtin; refine wpList_append_sl _ rfl _ _ 28 rfl B 5 i0 (.int .u8 0) 1 1 Tryd.underlying28 Hi.out Hz.out Hs.out Hb.out rfl (by decide) _ _ _ rfl (hs.alloc _) ⟨w.heap.size, 0, none⟩ 1 1 [_] rfl rfl (cell_one_new _ _ _) (by simp [Value.oneCell']) (by unfold maxLen; omega) (by omega) (by simp; omega) ?_; intro v' w1 hx; have hbel : Below B w w1 := ((Below.refl B w).alloc hB _).trans (hx.below (Nat.le_refl _) (by simp; omega)); have k0 := (hbel.cell (p := ⟨r, 0, none⟩) hlt).trans h0; have k1 := (hbel.cell (p := ⟨r, 1, none⟩) hlt).trans h1; have g0 := (hbel.frozen (p := ⟨r, 0, none⟩) hlt).trans f0; have g1 := (hbel.frozen (p := ⟨r, 1, none⟩) hlt).trans f1; have hnow := hx.now; have hmine := Lib.hid (ext_mine hx (fun k hk => (hs.lt k hk).2)); obtain ⟨g, off, cap, rfl, hg, hcap, hmax⟩ := hnow.some (by omega); clear hx)
  obtain ⟨w2, hw2⟩ : ∃ w2, w2 = w1.setCell ⟨r, 0, none⟩ (.slice (some ⟨g, off, none⟩) ((n + 7) / 8 + 1) cap) := ⟨_, rfl⟩
  rw [← hw2]
  have hsz := hbel.size
  have hB2 : B ≤ w2.heap.size := by rw [hw2]; simp [World.setCell]; omega
  have K2 : Keep B r w w2 := by rw [hw2]; exact (Keep.of_below hbel).setCell (p := ⟨r, 0, none⟩) (.inr rfl) _
  have q0 : w2.cell? ⟨r, 0, none⟩ = some (.slice (some ⟨g, off, none⟩) ((n + 7) / 8 + 1) cap) := by rw [hw2]; exact cell_setCell_same _ _ _ _ (by rw [k0]; rfl)
  have q1 : w2.cell? ⟨r, 1, none⟩ = some (.int .i64 n) := by rw [hw2, cell_setCell_other _ _ _ _ _ (.inr (by simp)), k1]
  have z0 : w2.frozen? ⟨r, 0, none⟩ = false := by rw [hw2, frozen_setCell]; exact g0
  have z1 : w2.frozen? ⟨r, 1, none⟩ = false := by rw [hw2, frozen_setCell]; exact g1
  have s2 : Sl w2 B 1 (.slice (some ⟨g, off, none⟩) ((n + 7) / 8 + 1) cap) ((n + 7) / 8 + 1) (cb (P ++ [0])) := by
    have := sl_else hnow ⟨r, 0, none⟩ (.slice (some ⟨g, off, none⟩) (P.length + 1) cap) hlt
    rw [hw2, ← hp, cb_append]
    exact this
  have c0 : w2.cell? ⟨g, off + n / 8, none⟩ = some (.int .u8 0) := by
    have := sl_cell s2 (n / 8) 0 (by rw [List.getElem?_append_right (by omega), show n / 8 - P.length = 0 by omega]; rfl)
    exact this
  have fz : w2.frozen? ⟨g, off + n / 8, none⟩ = false := by
    rcases s2.2 with ⟨h0, _⟩ | ⟨g', off', cap', he, _, _, _, _, hfree, _⟩
    · cases h0
    · cases he
      exact (hfree _ (by omega)).2
  have HK := Lib.hid hw2
  clear hw2 hnow k0 k1 g0 g1 h0 h1 f0 f1 hs hbel
  have hgr : g ≠ r := by omega
  go_wp2
  go_region
  go_wp2
  go_end0
  have hxor := Bt.or_set l n 0 HN.out (by rw [hby]; rfl)
  have e8 : (128 : Int) = 128 / 2 ^ (n % 8) := by rw [hm]; rfl
  have hxor' : bits BinOp.or IntKind.u8 0 128 = (((UInt8.ofNat (Bt.byteAt l (n / 8) ||| (128 / 2 ^ (n % 8)))).toNat : Nat) : Int) := (congrArg (fun x : Int => bits BinOp.or IntKind.u8 0 x) e8).trans hxor
  rw [hxor']
  have hset := sl_set s2 (UInt8.ofNat (Bt.byteAt l (n / 8) ||| (128 / 2 ^ (n % 8)))) (c := n / 8) (by omega)
  have hpk : (P ++ [0]).set (n / 8) (UInt8.ofNat (Bt.byteAt l (n / 8) ||| (128 / 2 ^ (n % 8)))) = Bt.pack (l ++ [true]) := by
    rw [Bt.pack_one, hP2, ← HN.out]
  rw [hpk] at hset
  refine ⟨rfl, _, RowV.done (w := (w2.setCell ⟨g, off + n / 8, none⟩ _).drew) hlt (by simp [World.setCell]; exact hB2) hset ?_ ?_ ?_ ?_ ?_, ⟨?_, fun k hk hr hv => ?_, hmine.out.2⟩⟩
  · refine (cell_setCell_other _ _ _ _ _ (.inl (by simp only; omega))).trans ?_
    rw [q0]
  · refine Eq.trans (congrArg Option.isSome (cell_setCell_other _ _ _ _ _ (.inl (by simp only; omega)))) ?_
    rw [q1]; rfl
  · exact (frozen_setCell _ _ _ _ _).trans z0
  · exact (frozen_setCell _ _ _ _ _).trans z1
  · rw [List.length_append, ← HN.out]; simp
  · exact ((K2.setCell (p := ⟨g, off + n / 8, none⟩) (.inl hg) _).drew).setCell (p := ⟨r, 1, none⟩) (.inr rfl) _
  · have hkg : k ≠ g := by
      intro e
      rcases hmine.out.2 with e2 | f
      · exact hv ((Eq.symm e2).trans (by rw [e]; rfl))
      · have := f g rfl; omega
    refine (Below.heap_setCell _ _ _ _ hr).trans ((Below.heap_setCell w2 ⟨g, off + n / 8, none⟩ _ k hkg).trans ?_)
    rw [HK.out, Below.heap_setCell _ _ _ _ hr]
    exact hmine.out.1 k hk hv

theorem bit_any (B r : Nat) (v : Value) (l : List Bool) (b : Bool) (w : World) (h : RowV B r v l w) (hl : l.length ≤ 1000000) :
    Calls Tryd.prog 56 #[.pointer (some ⟨r, 0, none⟩), .bool b] w fun e w' => e = .returned (.tuple #[]) ∧ Wr B r v (l ++ [b]) w w' := by
  cases b
  · exact bit0_any B r v l w h hl
  · by_cases hm : l.length % 8 = 0
    · exact bit1_new B r v l w h hl hm
    · exact bit1_old B r v l w h hl hm
end Go.Proofs.YtajkleknjjpldaaDoor

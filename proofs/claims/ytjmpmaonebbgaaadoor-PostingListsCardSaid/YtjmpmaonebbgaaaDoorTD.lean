/- Layer 12: the statements' Lists; are two lists the same. -/
import Derived.Test.YtjmpmaonebbgaaaDoorTC
import Derived.Test.YtjmpmaonebbgaaaDoorT6
import Derived.Deep.RegionHeld3
namespace Go.Proofs.YtjmpmaonebbgaaaDoor
open Go.RowKit Go.Lib

set_option maxHeartbeats 1000000 in
set_option maxRecDepth 100000 in
theorem same12_any (v u : Value) (l : List Int) (w : World) (h : Ns w v l) (k : Ns w u l) :
    Calls Tryd.prog 8 #[v, u] w fun e w' => e = .returned (.int .i64 0) ∧ Below w.heap.size w w' := by
  obtain ⟨⟨_, a, cap, g, off, rfl, hg, hc⟩, hl⟩ := h
  obtain ⟨⟨_, b, cap2, g2, off2, rfl, hg2, hc2⟩, _⟩ := k
  obtain ⟨n, hn⟩ : ∃ n, n = l.length := ⟨_, rfl⟩
  rw [← hn] at hg hc hl hg2 hc2 ⊢
  have HN := Lib.hid hn
  have HG := Lib.hid hg; have HC := Lib.hid hc; have HG2 := Lib.hid hg2; have HC2 := Lib.hid hc2
  clear hn hg hc hg2 hc2
  go_enter Tryd.func8, Tryd.ntmps8
  go_wp2_with fail
  go_loopw [13] (fun i' wr => ∃ (i : Nat), i' = .int .i64 i ∧ i ≤ n ∧ Below w.heap.size w wr) (fun i' _ => n - (RowKit.intOf i').toNat)
  case atStart => exact ⟨0, rfl, by omega, Below.refl _ _⟩
  case round =>
    obtain ⟨i, rfl, hi, hb⟩ := hrel
    have HB := Lib.hid hb
    by_cases hlt : i < n
    · obtain ⟨rfl, hgl⟩ := HG.out (by omega)
      obtain ⟨rfl, hgl2⟩ := HG2.out (by omega)
      obtain ⟨x, hx⟩ : ∃ x, l[i]? = some x := ⟨l[i]'(by have := HN.out; omega), List.getElem?_eq_getElem (by have := HN.out; omega)⟩
      have q0 := ((hb.cell (p := ⟨g, off + i, none⟩) hgl).trans (HC.out i (by omega))).trans (ic_at l i x hx)
      have q1 := ((hb.cell (p := ⟨g2, off2 + i, none⟩) hgl2).trans (HC2.out i (by omega))).trans (ic_at l i x hx)
      have hil : (i : Int) < n := by omega
      have hil0 : (0 : Int) ≤ i := by omega
      clear hb hx
      go_wp2
      go_quiet (fail)
      go_wp2
      exact ⟨⟨i + 1, by simp, by omega, below_draw HB.out _⟩, by simp [RowKit.intOf]; omega⟩
    · have hil : ¬ (i : Int) < n := by omega
      clear hb
      go_wp2
      go_ret
      exact ⟨rfl, HB.out⟩

/-- A list within its capacity, of whatever length. -/
def Ncw (w : World) (v : Value) (l : List Int) : Prop := ∃ a cap g off, v = .slice a l.length cap ∧ l.length ≤ cap ∧ cap ≤ 9223372036854775807 ∧ (0 < l.length → a = some ⟨g, off, none⟩ ∧ g < w.heap.size) ∧ ∀ j x, l[j]? = some x → w.cell? ⟨g, off + j, none⟩ = some (.int .i64 x)
/-- Such lists in a slice. -/
def Nls (w : World) (v : Value) (ls : List (List Int)) : Prop := ∃ a cap g off, v = .slice a ls.length cap ∧ (0 < ls.length → a = some ⟨g, off, none⟩ ∧ g < w.heap.size) ∧ ∀ j l, ls[j]? = some l → ∃ x, w.cell? ⟨g, off + j, none⟩ = some x ∧ Ncw w x l
theorem Ncw.on {w w' : World} {v : Value} {l : List Int} (h : Ncw w v l) (b : Below w.heap.size w w') : Ncw w' v l := by
  obtain ⟨a, cap, g, off, hv, hc, hm, h1, h2⟩ := h
  refine ⟨a, cap, g, off, hv, hc, hm, fun hn => ⟨(h1 hn).1, Nat.lt_of_lt_of_le (h1 hn).2 b.size⟩, fun j x hx => ?_⟩
  have hn : 0 < l.length := by have := (List.getElem?_eq_some_iff.1 hx).1; omega
  exact (b.cell (p := ⟨g, off + j, none⟩) (h1 hn).2).trans (h2 j x hx)
/-- What Lists makes of one. -/
def oneQ (l : List Int) : List Int := anyZ [l.take 20]
theorem oneQ_len (l : List Int) : (oneQ l).length ≤ 20 := by
  unfold oneQ anyZ
  have := foldP_len [l.take 20].flatten []
  have h2 : [l.take 20].flatten.length ≤ 20 := by simp; omega
  simp only [List.length_nil, Nat.zero_add] at this
  omega
/-- The lists told, and the program's. -/
structure LsR (w wr : World) (ls : List (List Int)) (p4 p5 : Value) (i : Nat) (xs : List Value) : Prop where
  s4 : Sl wr w.heap.size 1 p4 i xs
  s5 : Sl wr w.heap.size 1 p5 i xs
  apart : ∀ k, p4.ownBlock = some k → p5.ownBlock ≠ some k
  all : ∀ (j : Nat) (x : Value), xs[j]? = some x → ∃ l, ls[j]? = some l ∧ Sl wr w.heap.size 1 x (oneQ l).length (ic (oneQ l)) ∧ ∀ k, x.ownBlock = some k → p4.ownBlock ≠ some k ∧ p5.ownBlock ≠ some k
  below : Below w.heap.size w wr
theorem slice_one' (v : Value) (h : ∃ a n c, v = .slice a n c) : v.oneCell' = true := by
  obtain ⟨a, n, c, rfl⟩ := h; rfl
/-- The answer. -/
def ListsP (w : World) (ls : List (List Int)) (e : Ending) (w' : World) : Prop :=
  ∃ v1 v2 xs, e = .returned (.tuple #[v1, v2]) ∧ LsR w w' ls v1 v2 (min ls.length 5) xs
theorem run_headI (a : Option Addr) (n cap m : Nat) (hm : m ≤ n) (hn : n ≤ cap) (W : World) : (Instr.slice 23 (.slice a n cap) none (some (.int .i64 (m : Int))) none).run Tryd.prog W = .ok (.slice a m cap) W := by
  have hu := run_underlying Tryd.underlying23
  have hz := Tryd.sizeOf3
  have h1 : (m : Int) ≤ cap := by omega
  cases a with
  | none => simp [Instr.slice, Instr.sliceBounds, go_sem, hu, hz, Addr.add, h1]
  | some p => simp [Instr.slice, Instr.sliceBounds, go_sem, hu, hz, Addr.add, h1]

theorem bi_list : (Tryd.prog.info? 29).map (fun i => (i.zero, i.size, i.bytes)) = some (some (.slice none 0 0), 1, 24) := by kernel_rfl
theorem bi_ints : (Tryd.prog.info? 23).map (fun i => (i.zero, i.size, i.bytes)) = some (some (.slice none 0 0), 1, 24) := by kernel_rfl

/-- A step: a value more on either side. -/
theorem LsR.next {w W0 w1 w2 w3 : World} {ls : List (List Int)} {p4 p5 v4 v5 x : Value} {i : Nat} {xs : List Value} {l : List Int} (h : LsR w W0 ls p4 p5 i xs) (hi : xs.length = i) (hl : ls[i]? = some l)
    (hx : Sl w1 W0.heap.size 1 x (oneQ l).length (ic (oneQ l))) (b1 : Below W0.heap.size W0 w1) (e4 : Ext w.heap.size 1 (w1.alloc (.cells #[x] 29)) p4 i xs w2 v4 (i + 1) (xs ++ [x]))
    (e5 : Ext w.heap.size 1 (w2.alloc (.cells #[x] 23)) p5 i xs w3 v5 (i + 1) (xs ++ [x])) : LsR w w3 ls v4 v5 (i + 1) (xs ++ [x]) := by
  have z0 := h.below.size
  have z1 := b1.size
  have za : (w1.alloc (.cells #[x] 29)).heap.size = w1.heap.size + 1 := by simp
  have zb : (w2.alloc (.cells #[x] 23)).heap.size = w2.heap.size + 1 := by simp
  have z2 := e4.grown.size
  have z3 := e5.grown.size
  have l4 : ∀ k, p4.ownBlock = some k → k < W0.heap.size := fun k hk => (h.s4.lt k hk).2
  have l5 : ∀ k, p5.ownBlock = some k → k < W0.heap.size := fun k hk => (h.s5.lt k hk).2
  have n4 : ∀ k, v4.ownBlock = some k → p4.ownBlock = some k ∨ w1.heap.size + 1 ≤ k := fun k hk => by
    rcases e4.alias with ⟨a, c, e1, e2, _⟩ | hf
    · exact .inl (by rw [e1, ← hk, e2]; exact ownBlock_slice a _ _ _ _)
    · have := hf k hk; exact .inr (by omega)
  have n5 : ∀ k, v5.ownBlock = some k → p5.ownBlock = some k ∨ w2.heap.size + 1 ≤ k := fun k hk => by
    rcases e5.alias with ⟨a, c, e1, e2, _⟩ | hf
    · exact .inl (by rw [e1, ← hk, e2]; exact ownBlock_slice a _ _ _ _)
    · have := hf k hk; exact .inr (by omega)
  have l4' : ∀ k, v4.ownBlock = some k → k < w2.heap.size := fun k hk => (e4.now.lt k hk).2
  have lx : ∀ k, x.ownBlock = some k → W0.heap.size ≤ k ∧ k < w1.heap.size := fun k hk => hx.lt k hk
  -- what stands through both appends
  have keep : ∀ {y : Value} {m : Nat} {ys : List Value}, Sl w1 w.heap.size 1 y m ys → (∀ k, y.ownBlock = some k → p4.ownBlock ≠ some k ∧ p5.ownBlock ≠ some k) → Sl w3 w.heap.size 1 y m ys := fun {y m ys} hy hd => by
    have h1 := (hy.alloc (.cells #[x] 29)).same e4.grown.size (fun k hk => e4.grown.block k (by have := (hy.lt k hk).2; omega) (fun e => (hd k hk).1 e.symm))
    exact (h1.alloc (.cells #[x] 23)).same e5.grown.size (fun k hk => e5.grown.block k (by have := (h1.lt k hk).2; omega) (fun e => (hd k hk).2 e.symm))
  refine ⟨?_, e5.now, fun k hk => ?_, fun j y hy => ?_, ?_⟩
  · refine (e4.now.alloc (.cells #[x] 23)).same e5.grown.size (fun k hk => e5.grown.block k (by have := l4' k hk; omega) (fun e => ?_))
    rcases n4 k hk with h4 | h4
    · exact h.apart k h4 e.symm
    · have := l5 k e.symm; omega
  · intro hk5
    rcases n5 k hk5 with h5 | h5
    · rcases n4 k hk with h4 | h4
      · exact h.apart k h4 h5
      · have := l5 k h5; omega
    · have := l4' k hk; omega
  · by_cases hj : j < i
    · rw [List.getElem?_append_left (by omega)] at hy
      obtain ⟨q, hq, hs, hd⟩ := h.all j y hy
      have hyl : ∀ k, y.ownBlock = some k → k < W0.heap.size := fun k hk => (hs.lt k hk).2
      refine ⟨q, hq, keep (hs.on b1) hd, fun k hk => ⟨fun e => ?_, fun e => ?_⟩⟩
      · rcases n4 k e with h4 | h4
        · exact (hd k hk).1 h4
        · have := hyl k hk; omega
      · rcases n5 k e with h5 | h5
        · exact (hd k hk).2 h5
        · have := hyl k hk; omega
    · have hji : j = i := by
        have := (List.getElem?_eq_some_iff.1 hy).1
        simp at this; omega
      subst hji
      rw [List.getElem?_append_right (by omega), hi, Nat.sub_self] at hy
      obtain rfl : x = y := by simpa using hy
      refine ⟨l, hl, keep (hx.mono z0) (fun k hk => ⟨fun e => ?_, fun e => ?_⟩), fun k hk => ⟨fun e => ?_, fun e => ?_⟩⟩
      · have := l4 k e; have := (lx k hk).1; omega
      · have := l5 k e; have := (lx k hk).1; omega
      · rcases n4 k e with h4 | h4
        · have := l4 k h4; have := (lx k hk).1; omega
        · have := (lx k hk).2; omega
      · rcases n5 k e with h5 | h5
        · have := l5 k h5; have := (lx k hk).1; omega
        · have := (lx k hk).2; omega
  · have b2 := (h.below.trans (b1.mono z0)).alloc (by omega) (.cells #[x] 29)
    have b3 := (b2.trans (e4.below (Nat.le_refl _) (by omega))).alloc (by omega) (.cells #[x] 23)
    exact b3.trans (e5.below (Nat.le_refl _) (by omega))

/-- The told ones' slice behind the other one's append. -/
theorem ls5 {w W0 w1 w2 : World} {ls : List (List Int)} {p4 p5 v4 x : Value} {i : Nat} {xs : List Value} (h : LsR w W0 ls p4 p5 i xs) (b1 : Below W0.heap.size W0 w1)
    (e4 : Ext w.heap.size 1 (w1.alloc (.cells #[x] 29)) p4 i xs w2 v4 (i + 1) (xs ++ [x])) : Sl (w2.alloc (.cells #[x] 23)) w.heap.size 1 p5 i xs := by
  have h5 := (h.s5.on b1).alloc (.cells #[x] 29)
  exact (h5.same e4.grown.size (fun k hk => e4.grown.block k (h5.lt k hk).2 (fun e => h.apart k e.symm hk))).alloc _

set_option maxHeartbeats 4000000 in
set_option maxRecDepth 100000 in
theorem lists_any (v : Value) (ls : List (List Int)) (w : World) (h : Nls w v ls) :
    Calls Tryd.prog 6 #[v] w (ListsP w ls) := by
  obtain ⟨i0, hi, hz0, hz1, hz2⟩ := info_parts bi_list
  have Hz := Lib.hid hz0; have Hs := Lib.hid hz1; have Hb := Lib.hid hz2; have Hi := Lib.hid hi
  clear hz0 hz1 hz2 hi
  obtain ⟨jI, hi, hz0, hz1, hz2⟩ := info_parts bi_ints
  have Kz := Lib.hid hz0; have Ks := Lib.hid hz1; have Kb := Lib.hid hz2; have Ki := Lib.hid hi
  clear hz0 hz1 hz2 hi
  obtain ⟨a, cap, g, off, rfl, hg, hc⟩ := h
  obtain ⟨N, hN⟩ : ∃ N, N = ls.length := ⟨_, rfl⟩
  rw [← hN] at hg ⊢
  have HN := Lib.hid hN; have HG := Lib.hid hg; have HC := Lib.hid hc
  clear hN hg hc
  go_enter Tryd.func6, Tryd.ntmps6
  go_wp2_with fail
  go_loopw [4, 5, 6] (fun p4 p5 i' wr => ∃ (i : Nat) (xs : List Value), i' = .int .i64 i ∧ i ≤ N ∧ i ≤ 5 ∧ Hid (xs.length = i) ∧ LsR w wr ls p4 p5 i xs) (fun _ _ i' _ => 5 - (RowKit.intOf i').toNat)
  case atStart =>
    have s1 : (w.alloc (.cells #[] 29)).heap.size = w.heap.size + 1 := by simp
    have q4 := Sl.lit w w.heap.size 1 0 #[] 29 (Nat.le_refl _) (by decide) rfl
    have q5 := Sl.lit (w.alloc (.cells #[] 29)) w.heap.size 1 0 #[] 23 (by omega) (by decide) rfl
    rw [s1] at q5
    refine ⟨0, [], rfl, by omega, by omega, rfl, ⟨q4.alloc _, q5, fun k h1 h2 => ?_, fun j x hx => by simp at hx, ((Below.refl _ _).alloc (Nat.le_refl _) _).alloc (by omega) _⟩⟩
    simp [Value.ownBlock] at h1 h2
    omega
  case round =>
    obtain ⟨W0, rfl⟩ : ∃ W0, W0 = wr := ⟨_, rfl⟩
    obtain ⟨i, xs, rfl, hi, hi5, hxl, R⟩ := hrel
    have HXL := Lib.hid hxl.out
    have HR := Lib.hid R
    obtain ⟨a4, c4, rfl⟩ := R.s4.slice
    obtain ⟨a5, c5, rfl⟩ := R.s5.slice
    have hb := R.below
    clear hxl R
    by_cases hlt : i < N ∧ i < 5
    · obtain ⟨hlt, hlt5⟩ := hlt
      obtain ⟨rfl, hgl⟩ := HG.out (by omega)
      obtain ⟨l, hl⟩ : ∃ l, ls[i]? = some l := ⟨ls[i]'(by have := HN.out; omega), List.getElem?_eq_getElem (by have := HN.out; omega)⟩
      obtain ⟨x, hx, hn⟩ := HC.out i l hl
      have hx := (hb.cell (p := ⟨g, off + i, none⟩) hgl).trans hx
      obtain ⟨xa, xc, xg, xo, rfl, hlc, hcm, hn1, hn2⟩ := hn.on hb
      obtain ⟨ln, hln⟩ : ∃ k, k = l.length := ⟨_, rfl⟩
      rw [← hln] at hx hlc hn1
      obtain ⟨m, hm⟩ : ∃ m, m = min ln 20 := ⟨_, rfl⟩
      have hm1 : m ≤ ln := by omega
      have hmi : min (ln : Int) 20 = m := by omega
      have hrun := run_headI xa ln xc m hm1 hlc
      have CA : ∀ W, Below W0.heap.size W0 W → W.cell? ⟨W0.heap.size, 0, none⟩ = some (.slice xa m xc) → W0.heap.size < W.heap.size → Calls Tryd.prog 12 #[.slice (some ⟨W0.heap.size, 0, none⟩) 1 1] W (NewN W (oneQ l)) := fun W hW hcell hsz => by
        refine rany_any _ [l.take 20] W ⟨by simp, some ⟨W0.heap.size, 0, none⟩, 1, W0.heap.size, 0, rfl, by simp, fun _ => ⟨rfl, hsz⟩, fun j q hq => ?_⟩ (by simp; omega)
        match j, hq with
        | 0, hq =>
          obtain rfl := Option.some.inj hq
          refine ⟨_, hcell, by simp; omega, xa, xc, xg, xo, by rw [List.length_take, ← hln, hm, Nat.min_comm], by rw [List.length_take]; omega, fun hp => ?_, fun j y hy => ?_⟩
          · rw [List.length_take] at hp
            exact ⟨(hn1 (by omega)).1, Nat.lt_of_lt_of_le (hn1 (by omega)).2 hW.size⟩
          · have hj := (List.getElem?_eq_some_iff.1 hy).1
            rw [List.length_take] at hj
            rw [List.getElem?_take, if_pos (by omega)] at hy
            exact (hW.cell (p := ⟨xg, xo + j, none⟩) (hn1 (by omega)).2).trans (hn2 j y hy)
      have hnew := heap_alloc_new W0 (.cells #[.slice xa m xc] 23)
      have C1 := Lib.hid (CA (W0.alloc (.cells #[.slice xa m xc] 23)).drew (((Below.refl _ _).alloc (Nat.le_refl _) _).drew) (Lib.cell_of_heap hnew 0) (by show W0.heap.size < (W0.alloc _).heap.size; simp))
      have B1 := Lib.hid (show Below W0.heap.size W0 (W0.alloc (.cells #[.slice xa m xc] 23)).drew from ((Below.refl _ _).alloc (Nat.le_refl _) _).drew)
      have hgW : g < W0.heap.size := Nat.lt_of_lt_of_le hgl hb.size
      have hx1 := (B1.out.cell (p := ⟨g, off + i, none⟩) hgW).trans hx
      have hgV : g < (W0.alloc (.cells #[.slice xa m xc] 23)).drew.heap.size := Nat.lt_of_lt_of_le hgW B1.out.size
      have i1 : (i : Int) < N := by omega
      have i2 : (0 : Int) ≤ i := by omega
      have i3 : (i : Int) < 5 := by omega
      have HL := Lib.hid hl
      have HLQ := Lib.hid (oneQ_len l)
      have HSX := Lib.hid hx
      clear hn2 hn1 hl CA hnew hn hln hm
      go_wp2_with fail
      go_region_held3 (fun W => W.cell? ⟨g, off + i, none⟩ = some (.slice xa ln xc)) (first | exact hx | exact hx1 | exact hx2 | assumption | fail)
        (first
          | (go_at_call 12; (with_reducible refine C1.out.mono ?_); rintro e w1 ⟨v7, rfl, s7, b7⟩; obtain ⟨a7, c7, rfl⟩ := s7.slice; have hx2 := (b7.cell (p := ⟨g, off + i, none⟩) hgV).trans hx1)
          | fail)
      have s7 := s7.mono (base' := W0.heap.size) B1.out.size
      have b7 := B1.out.trans (b7.mono B1.out.size)
      have z7 := b7.size
      have hbz := hb.size
      have S4 := Lib.hid (HR.out.s4.on b7)
      have own4 := fun k hk => (HR.out.s4.lt k hk).2
      have S7 := Lib.hid s7; have B7 := Lib.hid b7; have HB := Lib.hid hb
      have H1 := Lib.hid (show (oneQ l).length ≤ 100000 by have := HLQ.out; omega)
      obtain ⟨q, hq⟩ : ∃ q, q = (oneQ l).length := ⟨_, rfl⟩
      rw [← hq] at S7 ⊢
      have HQ := Lib.hid hq
      have z1 : (w1.alloc (.cells #[.slice a7 q c7] 29)).heap.size = w1.heap.size + 1 := by simp
      have A4 := Lib.hid (Sl.lit w1 w.heap.size 1 1 #[.slice a7 q c7] 29 (by omega) (by decide) rfl)
      clear s7 b7 hb hx hx1 hx2 C1 B1 hrun hmi hgV hq own4
      go_wp2_with (at_builtin; first
        | (refine wpList_append_sl2 _ rfl _ _ 24 rfl w.heap.size 29 i0 (.slice none 0 0) 1 24 Tryd.underlying24 Hi.out Hz.out Hs.out Hb.out rfl (by decide) _ i _ rfl (S4.out.alloc _) _ _ 1 _ rfl A4.out (fun u hu => by obtain rfl := List.mem_singleton.1 hu; rfl) (by unfold maxLen; omega) (by omega) (by omega) ?_; intro v4 w2 x4; obtain ⟨a4', c4', rfl⟩ := x4.now.slice; have X4 := Lib.hid x4; have z2 := x4.grown.size; have z2a : (w2.alloc (.cells #[.slice a7 q c7] 23)).heap.size = w2.heap.size + 1 := by simp)
        | (refine wpList_append_sl2 _ rfl _ _ 22 rfl w.heap.size 23 jI (.slice none 0 0) 1 24 Tryd.underlying22 Ki.out Kz.out Ks.out Kb.out rfl (by decide) _ i _ rfl (ls5 HR.out B7.out X4.out) _ _ 1 _ rfl (Sl.lit w2 w.heap.size 1 1 #[.slice a7 q c7] 23 (by omega) (by decide) rfl) (fun u hu => by obtain rfl := List.mem_singleton.1 hu; rfl) (by unfold maxLen; omega) (by omega) (by omega) ?_; intro v5 w3 x5; obtain ⟨a5', c5', rfl⟩ := x5.now.slice; have X5 := Lib.hid x5; clear x5)
        | fail)
      have HS7 := S7.out
      rw [HQ.out] at HS7
      have X4' := X4.out
      have X5' := X5.out
      rw [HQ.out] at X4' X5'
      exact ⟨⟨i + 1, xs ++ [.slice a7 (oneQ l).length c7], by simp, by omega, by omega, by rw [List.length_append, HXL.out]; rfl, HR.out.next HXL.out HL.out HS7 B7.out X4' X5'⟩, by simp [RowKit.intOf]; omega⟩
    · have hil : i = min N 5 := by omega
      have HF := Lib.hid (show ListsP w ls (.returned (.tuple #[.slice a4 i c4, .slice a5 i c5])) W0 from ⟨_, _, xs, rfl, by rw [← HN.out, ← hil]; exact HR.out⟩)
      by_cases hlt1 : i < N
      · have e1 : (i : Int) < N := by omega
        have e2 : ¬ (i : Int) < 5 := by omega
        clear hlt hil
        go_wp2
        go_ret2
        exact HF.out
      · have e1 : ¬ (i : Int) < N := by omega
        clear hlt hil
        go_wp2
        go_ret2
        exact HF.out
end Go.Proofs.YtjmpmaonebbgaaaDoor

/- A slice of things that came in, opened. -/
import Derived.Test.YtfhpbjokgijdfaaC8
import Derived.Deep.SlicePairs
import Derived.OpenShut
namespace Go.Proofs.Ytfhpbjokgijdfaa
open Go.RowKit Go.Lib Go.Deep Go.ChangeShapes Go.WideShapes

/-- Things read from cells: the first 20. -/
def ThsAt (w : World) (ao : Option Addr) (len : Nat) (ts : List Th) : Prop :=
  ts.length = min len 20 ∧ (∀ t ∈ ts, t.Fits) ∧ (0 < len → ∃ b off, ao = some ⟨b, off, none⟩ ∧ b < w.heap.size ∧ ∀ i t, ts[i]? = some t →
    w.cell? ⟨b, off + i * 5, none⟩ = some (.int .i64 t.k) ∧ w.cell? ⟨b, off + i * 5 + 1, none⟩ = some (.int .i64 t.n) ∧ w.cell? ⟨b, off + i * 5 + 2, none⟩ = some (.int .i64 t.m) ∧
    w.cell? ⟨b, off + i * 5 + 3, none⟩ = some (.int .u64 t.v) ∧ w.cell? ⟨b, off + i * 5 + 4, none⟩ = some (.bool t.b))

def intIn : Value → Int | .int _ n => n | _ => 0
def boolIn : Value → Bool | .bool b => b | _ => false

theorem five {α : Type} (l : List α) (h : l.length = 5) : ∃ a b c d e, l = [a, b, c, d, e] := by
  match l, h with
  | [a, b, c, d, e], _ => exact ⟨a, b, c, d, e, rfl⟩

instance : Inhabited Th := ⟨⟨0, 0, 0, 0, false⟩⟩
theorem things_open {H : Type} {enc : TypeId × Value → H} {W : World} {base : Nat} {spare : Nat → Bool} {held : Bool} {fuel : Nat} {ao : Option Addr} {len cap : Nat} {x : DataW H × List MemPlace}
    (h : DataW.trod enc Try.prog W base spare held fuel 22 [.slice ao len cap] = some x) : ∃ ts, len ≤ maxLen ∧ ThsAt W ao len ts := by
  rcases open_slice Try.underlying22 h with ⟨hcs, _⟩ | ⟨a, len', cap', m, n, D, Pl, hcs, hb, hl, hm, hmm, _, hi⟩
  · simp only [List.cons.injEq, Value.slice.injEq, and_true] at hcs
    obtain ⟨rfl, rfl, rfl⟩ := hcs
    exact ⟨[], Nat.zero_le _, by simp, by simp, fun h => absurd h (Nat.lt_irrefl 0)⟩
  · simp only [List.cons.injEq, Value.slice.injEq, and_true] at hcs
    obtain ⟨rfl, rfl, rfl⟩ := hcs
    have hlm : len ≤ m := by rw [hmm]; split <;> omega
    have ce : Try.prog.cellsOf 32 = 5 := by kernel_rfl
    have each : ∀ i, i < m → ∃ t : Th, t.Fits ∧ W.cell? (a.add (i * 5)) = some (.int .i64 t.k) ∧ W.cell? ((a.add (i * 5)).add 1) = some (.int .i64 t.n) ∧ W.cell? ((a.add (i * 5)).add 2) = some (.int .i64 t.m) ∧ W.cell? ((a.add (i * 5)).add 3) = some (.int .u64 t.v) ∧ W.cell? ((a.add (i * 5)).add 4) = some (.bool t.b) := by
      intro i him
      obtain ⟨cs', h1, h2⟩ := hi i him
      rw [ce] at h1
      obtain ⟨_, hlen, hcell⟩ := World.cells?_some h1
      obtain ⟨c0, c1, c2, c3, c4, rfl⟩ := five cs' hlen
      obtain ⟨xs, k, hk, hxy, _, hxl, hf⟩ := DataW.trod_struct Try.underlying32 h2
      obtain ⟨y0, y1, y2, y3, y4, rfl⟩ := five xs hxl
      have e0 := hcell 0 (by omega); have e1 := hcell 1 (by omega); have e2 := hcell 2 (by omega); have e3 := hcell 3 (by omega); have e4 := hcell 4 (by omega)
      have ci : Try.prog.cellsOf 3 = 1 := by kernel_rfl
      have cu : Try.prog.cellsOf 30 = 1 := by kernel_rfl
      have cb : Try.prog.cellsOf 4 = 1 := by kernel_rfl
      have g0 := hf 0 _ rfl; have g1 := hf 1 _ rfl; have g2 := hf 2 _ rfl; have g3 := hf 3 _ rfl; have g4 := hf 4 _ rfl
      simp [ci, cu, cb] at g0 g1 g2 g3 g4
      obtain ⟨z0, q0, _, w0⟩ := DataW.trod_int Try.underlying3 g0
      obtain ⟨z1, q1, _, w1⟩ := DataW.trod_int Try.underlying3 g1
      obtain ⟨z2, q2, _, w2⟩ := DataW.trod_int Try.underlying3 g2
      obtain ⟨z3, q3, _, w3⟩ := DataW.trod_int Try.underlying30 g3
      obtain ⟨z4, q4, _⟩ := DataW.trod_bool Try.underlying4 g4
      simp only [List.cons.injEq, and_true] at q0 q1 q2 q3 q4
      have b0 := bd_i64 w0; have b1 := bd_i64 w1; have b2 := bd_i64 w2; have b3 := bd_u64 w3
      obtain ⟨v, rfl⟩ := Int.eq_ofNat_of_zero_le b3.1
      subst q0 q1 q2 q3 q4
      exact ⟨⟨z0, z1, z2, v, z4⟩, ⟨b0.1, b0.2, b1.1, b1.2, b2.1, b2.2, by simp only; omega⟩, by rw [add_add, Nat.add_zero] at e0; simpa using e0, by simpa using e1, by simpa using e2, by simpa using e3, by simpa using e4⟩
    obtain ⟨T, hT⟩ := choose_lt each
    refine ⟨(List.range (min len 20)).map T, Nat.le_trans hl hm, by simp, fun t ht => ?_, fun h0 => ?_⟩
    · obtain ⟨i, hi2, rfl⟩ := List.mem_map.1 ht
      have := List.mem_range.1 hi2
      exact (hT i (by omega)).1
    · obtain ⟨b, off, spot⟩ := a
      have hspot : spot = none := by
        have := World.cell?_spot (hT 0 (by omega)).2.1
        simpa [Addr.add] using this
      subst hspot
      have hc0 := (hT 0 (by omega)).2.1
      refine ⟨b, off, rfl, ?_, fun i t hit => ?_⟩
      · have := World.block_lt_of_cell? W _ hc0
        rwa [add_plain] at this
      · have hlt : i < min len 20 := by
          have := (List.getElem?_eq_some_iff.1 hit).1
          simpa using this
        simp only [List.getElem?_map, List.getElem?_range hlt, Option.map_some, Option.some.injEq] at hit
        subst hit
        obtain ⟨_, d0, d1, d2, d3, d4⟩ := hT i (by omega)
        simp only [add_plain] at d0 d1 d2 d3 d4
        exact ⟨d0, d1, d2, d3, d4⟩

/-- The bits of things, one behind the other. -/
def allBits (ts : List Th) : List Bool := ts.flatMap fun t => t.sm.bits
theorem allBits_snoc (ts : List Th) (i : Nat) (t : Th) (h : ts[i]? = some t) : allBits (ts.take (i + 1)) = allBits (ts.take i) ++ t.sm.bits := by
  unfold allBits
  rw [List.take_add_one, h]
  simp
theorem bits_len (t : Th) : t.sm.bits.length ≤ 64 := by
  unfold Th.bits
  split
  · simp
  · split
    · rw [Bt.bitsN_length]; omega
    · split
      · unfold Bt.unary Th.sm
        rw [List.length_append, List.length_replicate]
        split <;> simp <;> omega
      · simp
theorem allBits_len (ts : List Th) : (allBits ts).length ≤ 64 * ts.length := by
  induction ts with
  | nil => simp [allBits]
  | cons t ts ih =>
    have := bits_len t
    unfold allBits at ih ⊢
    rw [List.flatMap_cons, List.length_append, List.length_cons]
    omega

theorem RowV.grown {B r : Nat} {v : Value} {l : List Bool} {w w' : World} {row : Option Nat} (h : RowV B r v l w) (g : w.grownBy w' row) (hr : row ≠ some r) (hv : ∀ k, v.ownBlock = some k → row ≠ some k) : RowV B r v l w' := by
  have hlt : r < w.heap.size := Nat.lt_of_lt_of_le h.lt h.hB
  have hb := g.block r hlt (Ne.symm hr)
  exact ⟨h.lt, Nat.le_trans h.hB g.size, h.bytes.same g.size fun k hk => g.block k (h.bytes.lt k hk).2 (Ne.symm (hv k hk)),
    (World.cell?_of_block (a := ⟨r, 0, none⟩) hb).trans h.c0, (World.cell?_of_block (a := ⟨r, 1, none⟩) hb).trans h.len, (World.frozen?_of_block (a := ⟨r, 0, none⟩) hb).trans h.f0, (World.frozen?_of_block (a := ⟨r, 1, none⟩) hb).trans h.f1⟩

/-- A thing's cells, later. -/
theorem ths_cells {w wr : World} {ao : Option Addr} {len : Nat} {ts : List Th} (h : ThsAt w ao len ts) (hb : Below w.heap.size w wr) (i : Nat) (hi : i < ts.length) :
    ∃ b off t, ao = some ⟨b, off, none⟩ ∧ ts[i]? = some t ∧ t.Fits ∧ wr.cell? ⟨b, off + i * 5, none⟩ = some (.int .i64 t.k) ∧ wr.cell? ⟨b, off + i * 5 + 1, none⟩ = some (.int .i64 t.n) ∧ wr.cell? ⟨b, off + i * 5 + 2, none⟩ = some (.int .i64 t.m) ∧
      wr.cell? ⟨b, off + i * 5 + 3, none⟩ = some (.int .u64 t.v) ∧ wr.cell? ⟨b, off + i * 5 + 4, none⟩ = some (.bool t.b) := by
  obtain ⟨hl, hf, hc⟩ := h
  obtain ⟨b, off, hao, hbl, hcell⟩ := hc (by omega)
  have ht : ts[i]? = some ts[i] := List.getElem?_eq_getElem hi
  obtain ⟨c0, c1, c2, c3, c4⟩ := hcell i _ ht
  exact ⟨b, off, ts[i], hao, ht, hf _ (List.getElem_mem hi), (hb.cell (p := ⟨b, off + i * 5, none⟩) hbl).trans c0, (hb.cell (p := ⟨b, off + i * 5 + 1, none⟩) hbl).trans c1,
    (hb.cell (p := ⟨b, off + i * 5 + 2, none⟩) hbl).trans c2, (hb.cell (p := ⟨b, off + i * 5 + 3, none⟩) hbl).trans c3, (hb.cell (p := ⟨b, off + i * 5 + 4, none⟩) hbl).trans c4⟩

set_option maxHeartbeats 2000000 in
set_option maxRecDepth 100000 in
theorem bwrites_any (ao : Option Addr) (len cap : Nat) (ts : List Th) (w : World) (hlen : len ≤ maxLen) (h : ThsAt w ao len ts) :
    Calls Try.prog 3 #[.slice ao len cap] w fun e w' => e = .returned (.bool true) ∧ Below w.heap.size w w' := by
  obtain ⟨i0, hi, hz0, hz1, hz2⟩ := info_parts bi_bool
  have Hz := Lib.hid hz0; have Hs := Lib.hid hz1; have Hb := Lib.hid hz2; have Hi := Lib.hid hi
  clear hz0 hz1 hz2 hi
  have hT := bs_toList
  have H := Lib.hid h
  obtain ⟨n, hn⟩ : ∃ n, n = ts.length := ⟨_, rfl⟩
  have hl0 := h.1
  unfold maxLen at hlen
  have hl1 : n ≤ len := by omega
  have hl2 : n ≤ 20 := by omega
  have hl3 : len ≤ n ∨ 20 ≤ n := by omega
  have HN := Lib.hid hn
  clear hl0 hn h
  have r0 := row_new w 25
  have hbl : Below w.heap.size w (w.alloc (.cells #[.slice none 0 0, .int .i64 0] 25)) := (Below.refl _ _).alloc (Nat.le_refl _) _
  go_enter Try.func3, Try.ntmps3
  go_wp2_with fail
  refine (bawake_any _).mono ?_
  rintro e w1 ⟨rfl, b1⟩
  have r1 := (r0.below ((Below.refl _ _).alloc (Nat.le_refl _) (.cells #[] 4))).below b1
  have s1 := (Sl.lit (w.alloc (.cells #[.slice none 0 0, .int .i64 0] 25)) (w.heap.size + 1) 1 0 #[] 4 (by simp) (by decide) rfl).on b1
  have hb1 := below_step (hbl.alloc (by simp) (.cells #[] 4)) b1
  rw [World.size_alloc] at s1
  clear r0 hbl b1
  go_wp2_with fail
  go_loopw [4, 5] (fun o' i' wr => ∃ (i : Nat) (vr : Value), i' = .int .i64 i ∧ i ≤ n ∧ RowV (w.heap.size + 1) w.heap.size vr (allBits (ts.take i)) wr ∧ Sl wr (w.heap.size + 1) 1 o' (allBits (ts.take i)).length (bc (allBits (ts.take i))) ∧ Hid (∀ k, o'.ownBlock = some k → vr.ownBlock ≠ some k) ∧ Below w.heap.size w wr) (fun _ i' _ => n - (RowKit.intOf i').toNat)
  case atStart => exact ⟨0, _, rfl, by omega, r1, s1, (fun k _ => by simp [Value.ownBlock]), hb1⟩
  case round =>
    obtain ⟨i, vr, rfl, hi, hr, hs, hne, hbel⟩ := hrel
    obtain ⟨A, hA⟩ : ∃ A, A = allBits (ts.take i) := ⟨_, rfl⟩
    have hAl : A.length ≤ 2000 := by
      rw [hA]
      have := allBits_len (ts.take i)
      have h2 : (ts.take i).length ≤ 20 := by rw [List.length_take]; have := HN.out; omega
      omega
    rw [← hA] at hr hs
    have HA := Lib.hid hA
    clear hA
    obtain ⟨L, hL⟩ : ∃ L, L = A.length := ⟨_, rfl⟩
    rw [← hL] at hs hAl
    have HL := Lib.hid hL
    clear hL
    by_cases hlt : i < n
    · have g1 : i < len := by omega
      have g2 : i < 20 := by omega
      obtain ⟨b, off, t, hao, hti, hf, c0, c1, c2, c3, c4⟩ := ths_cells H.out hbel i (by have := HN.out; omega)
      subst hao
      have hstep := allBits_snoc ts i t hti
      rw [← HA.out] at hstep
      have hfs := hf.sm
      have hm30 : t.sm.m ≤ 30 := by show min t.m 30 ≤ 30; omega
      have hbit := bits_len t
      have hsm := fun W => small_any t hf W
      have HSM := Lib.hid hsm
      have HST := Lib.hid hstep
      obtain ⟨tk, tn, tm, tv, tb⟩ := t
      simp only at c0 c1 c2 c3 c4
      obtain ⟨y, hy⟩ : ∃ y, y = (Th.mk tk tn tm tv tb).sm := ⟨_, rfl⟩
      rw [← hy] at HSM HST hfs hm30 hbit
      have HY := Lib.hid hy
      clear hy hsm hstep hti hf
      obtain ⟨a, cp, rfl⟩ := hs.slice
      go_wp2_with fail
      refine (HSM.out _).mono ?_
      rintro e w2 ⟨rfl, b2⟩
      have hr2 := hr.below b2
      have hs2 := hs.on b2
      have hbel2 := below_step hbel b2
      clear c0 c1 c2 c3 c4
      go_wp2_with fail
      refine (put_any _ _ vr A y hfs hm30 _ hr2 (by have := HL.out; omega)).mono ?_
      rintro e w3 ⟨x, rfl, hx3, vr3, hr3, hc3⟩
      have hs3 := hc3.sl hs2 (fun k hk => ⟨by have := (hs2.lt k hk).1; omega, hne.out k hk⟩)
      have hbel3 := below_keep hbel2 (hc3.keep.mono (by omega)) (Nat.le_refl _)
      have z2 := b2.size
      have z3 := hc3.keep.size
      have z0 := hbel.size
      have hrB := hr.hB
      go_wp2_with (at_builtin; refine wpList_append_sl2 _ rfl _ _ 26 rfl (w.heap.size + 1) 4 i0 (.bool false) 1 1 Try.underlying26 Hi.out Hz.out Hs.out Hb.out rfl (by decide) _ L _ rfl hs3 w2.heap.size _ y.bits.length _ rfl hx3 (bc_one _) (by unfold maxLen; omega) (by omega) (by omega) ?_; intro v' w4 hx4)
      have hr4 : RowV (w.heap.size + 1) w.heap.size vr3 (A ++ y.bits) w4 := hr3.grown hx4.grown
        (fun e => by have := (hs3.lt _ e).1; omega)
        (fun k hk e => by
          rcases hc3.fresh with e2 | f
          · exact hne.out k e (e2 ▸ hk)
          · have h1 := f k hk
            have h2 := (hs2.lt k e).2
            omega)
      have hne4 : Hid (∀ k, v'.ownBlock = some k → vr3.ownBlock ≠ some k) := by
        intro k hk hk2
        have hlt3 := (hr3.bytes.lt k hk2).2
        rcases hx4.alias with ⟨a', cap', he, he', _⟩ | f
        · have hk' : (Value.slice a L cp).ownBlock = some k := by
            cases he
            rw [he'] at hk
            exact (ownBlock_slice _ _ _ _ _).trans hk
          rcases hc3.fresh with e2 | f
          · exact hne.out k hk' (e2 ▸ hk2)
          · have h1 := f k hk2
            have h2 := (hs2.lt k hk').2
            omega
        · have := f k hk
          omega
      have hs4 := hx4.now
      have hbel4 := hbel3.trans (hx4.below (B := w.heap.size) (by omega) (by omega))
      have hlen4 : L + y.bits.length = (A ++ y.bits).length := by rw [List.length_append, HL.out]
      clear hx4 hs3 hc3 hr3 hx3
      obtain ⟨a4, cp4, rfl⟩ := hs4.slice
      rw [hlen4, ← bc_append] at hs4
      rw [hlen4]
      obtain ⟨C, hC⟩ : ∃ C, C = A ++ y.bits := ⟨_, rfl⟩
      rw [← hC] at hr4 hs4 hlen4 ⊢
      have HC := Lib.hid hC
      clear hC
      go_wp2_with fail
      refine (rlen_any _ _ _ _ _ hr4).mono ?_
      rintro e w5 ⟨rfl, rfl⟩
      go_wp2
      have hCC : C = allBits (ts.take (i + 1)) := HC.out.trans HST.out.symm
      rw [hCC] at hr4 hs4 ⊢
      refine ⟨⟨i + 1, vr3, by go_num, by omega, hr4, hs4, (fun k hk => hne4 k ((ownBlock_slice _ _ _ _ _).trans hk)), hbel4⟩, by simp [RowKit.intOf]; omega⟩
    · obtain rfl : i = n := by omega
      have hd : decide ((i : Int) < (len : Int)) = true → decide ((i : Int) < 20) = false := by simp; omega
      obtain ⟨a, cp, rfl⟩ := hs.slice
      by_cases g1 : i < len
      · have g2 : decide ((i : Int) < 20) = false := by simp; omega
        clear hd hl3
        go_wp2_with fail
        refine (rtext_any _ _ _ _ _ hr).mono ?_
        rintro e w2 ⟨rfl, rfl⟩
        go_wp2_with fail
        refine (rtext03_any _ _ A _ (by rw [← HL.out]; exact hs) (by have := HL.out; omega)).mono ?_
        rintro e w3 ⟨rfl, b3⟩
        go_wp2
        go_ret
        exact ⟨rfl, below_step hbel b3⟩
      · have g2 : decide ((i : Int) < (len : Int)) = false := by simp; omega
        clear hd hl3
        go_wp2_with fail
        refine (rtext_any _ _ _ _ _ hr).mono ?_
        rintro e w2 ⟨rfl, rfl⟩
        go_wp2_with fail
        refine (rtext03_any _ _ A _ (by rw [← HL.out]; exact hs) (by have := HL.out; omega)).mono ?_
        rintro e w3 ⟨rfl, b3⟩
        go_wp2
        go_ret
        exact ⟨rfl, below_step hbel b3⟩
end Go.Proofs.Ytfhpbjokgijdfaa

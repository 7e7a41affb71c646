/- Layer 14: awake, walked. Layer 14: a slice of samples of series that came in, opened. -/
import Derived.Test.YtabeaehiidnbbaaDoorMWD
import Derived.Deep.SlicePairs
import Derived.Deep.Slices
import Derived.OpenShut
import Derived.ChangeSlices
namespace Go.Proofs.YtabeaehiidnbbaaDoor
open Go.RowKit Go.Lib Hp
set_option linter.unusedVariables false

def onc (zs : List On) : List Value := zs.flatMap fun z => [.int .u8 z.n, .int .i64 z.t, .int .u64 z.v]
theorem onc_at : ∀ (l : List On) (i : Nat) (z : On), l[i]? = some z → (onc l)[i * 3]? = some (.int .u8 z.n) ∧ (onc l)[i * 3 + 1]? = some (.int .i64 z.t) ∧ (onc l)[i * 3 + 2]? = some (.int .u64 z.v)
  | [], i, s, h => by simp at h
  | x :: l, 0, s, h => by
    simp only [List.getElem?_cons_zero, Option.some.injEq] at h
    subst h
    exact ⟨rfl, rfl, rfl⟩
  | x :: l, i + 1, s, h => by
    have ih := onc_at l i s (by simpa using h)
    refine ⟨?_, ?_, ?_⟩
    · rw [show (i + 1) * 3 = i * 3 + 1 + 1 + 1 by omega]; exact ih.1
    · rw [show (i + 1) * 3 + 1 = i * 3 + 1 + 1 + 1 + 1 by omega]; exact ih.2.1
    · rw [show (i + 1) * 3 + 2 = i * 3 + 2 + 1 + 1 + 1 by omega]; exact ih.2.2
theorem OnR.lit (w : World) (zs : List On) (cs : Array Value) (e : TypeId) (hcs : cs.toList = onc zs) (hl : zs.length ≤ 40) (hr : ∀ z ∈ zs, (0 ≤ z.n ∧ z.n ≤ 255) ∧ -9223372036854775808 ≤ z.t ∧ z.t ≤ 9223372036854775807) :
    OnR (w.alloc (.cells cs e)) (some ⟨w.heap.size, 0, none⟩) zs.length zs := by
  refine ⟨by omega, by unfold maxLen; omega, fun _ => ⟨w.heap.size, 0, rfl, by simp, fun i z hz => ?_⟩, hr⟩
  obtain ⟨h0, h1, h2⟩ := onc_at zs i z hz
  have hc : ∀ j, (w.alloc (.cells cs e)).cell? ⟨w.heap.size, j, none⟩ = (onc zs)[j]? := fun j => by
    rw [cell_of_row (w.alloc (.cells cs e)) w.heap.size j cs e (0, 0) (heap_alloc_new w _), ← hcs]
    simp
  rw [hc, hc, hc, Nat.zero_add]
  exact ⟨h0, h1, h2⟩
def onP (z : On) : List Pr × Sp := (labs z.n, ⟨t1000 z.t, z.v⟩)
theorem tableZ_P (zs : List On) : tableZ zs = addF [] (zs.map onP) := tableZ_addF zs
def zA : List On := [⟨0, 10, 1⟩, ⟨0, 20, 1⟩]
def zB : List On := [⟨0, 20, 1⟩, ⟨0, 30, 1⟩, ⟨3, 5, 1⟩]
theorem awake_Z : addF [] ([zA.map onP, zB.map onP]).flatten = [⟨labs 0, [⟨10, 1⟩, ⟨20, 1⟩, ⟨30, 1⟩]⟩, ⟨labs 3, [⟨5, 1⟩]⟩] := by decide
theorem TabC.form {w : World} {K : Nat} {v : Value} {rows : List Rw} (h : TabC w K v rows) : ∃ a c, v = .slice a rows.length c := by
  obtain ⟨⟨_, a, c, hv, _⟩, _⟩ := h
  exact ⟨a, c, hv⟩
theorem TabR.form {w : World} {K : Nat} {v : Value} {rows : List Rw} (h : TabR w K v rows) : ∃ a c, v = .slice a rows.length c := by
  obtain ⟨_, qs, _, h2, _⟩ := h
  exact h2.slice
theorem TabC.two {w : World} {K : Nat} {v : Value} {r0 r1 : Rw} (h : TabC w K v [r0, r1]) : ∃ g off c a0 c0 a1 c1, v = .slice (some ⟨g, off, none⟩) 2 c ∧ g < w.heap.size ∧ w.cell? ⟨g, off + 1, none⟩ = some (.slice a0 r0.ss.length c0) ∧ w.cell? ⟨g, off + 2 + 1, none⟩ = some (.slice a1 r1.ss.length c1) := by
  obtain ⟨⟨_, _⟩, qs, h1, h2, h3⟩ := h
  obtain ⟨q0, q1, rfl⟩ : ∃ q0 q1, qs = [q0, q1] := by
    match qs, h1 with
    | [q0, q1], _ => exact ⟨q0, q1, rfl⟩
    | [], h => simp at h
    | [q], h => simp at h
    | q :: q' :: q'' :: l, h => simp at h
  simp only [List.map_cons, List.map_nil, List.cons.injEq, and_true] at h1
  obtain ⟨rfl, rfl⟩ := h1
  obtain ⟨_, a, c, g, off, rfl, hg, hc⟩ := h2
  obtain ⟨rfl, hgl⟩ := hg (by simp)
  obtain ⟨a0, c0, e0⟩ := (h3 q0 (by simp)).1.s.slice
  obtain ⟨a1, c1, e1⟩ := (h3 q1 (by simp)).1.s.slice
  refine ⟨g, off, c, a0, c0, a1, c1, rfl, hgl, ?_, ?_⟩
  · rw [hc 1 (by simp), ← e0]; rfl
  · rw [Nat.add_assoc, hc 3 (by simp), ← e1]; rfl
theorem awake_cnt : cntZ [⟨labs 0, [⟨10, 1⟩, ⟨20, 1⟩, ⟨30, 1⟩]⟩, ⟨labs 3, [⟨5, 1⟩]⟩] = 4 := by decide

set_option maxHeartbeats 4000000 in
set_option maxRecDepth 100000 in
theorem awake14_any (w : World) : Calls Tryd.prog 8 #[] w fun e w' => e = .returned (.bool true) ∧ Below w.heap.size w w' := by
  have TA := Lib.hid (fun W => table14_any _ 2 2 zA _ (OnR.lit W zA #[.int .u8 0, .int .i64 10, .int .u64 1, .int .u8 0, .int .i64 20, .int .u64 1] 29 rfl (by decide) (by decide)))
  have TB := Lib.hid (fun W => table14_any _ 3 3 zB _ (OnR.lit W zB #[.int .u8 0, .int .i64 20, .int .u64 1, .int .u8 0, .int .i64 30, .int .u64 1, .int .u8 3, .int .i64 5, .int .u64 1] 29 rfl (by decide) (by decide)))
  have BA := Lib.hid (fun (W : World) (o : Obj) => (Below.refl W.heap.size W).alloc (Nat.le_refl _) o)
  have TT := Lib.hid (fun (W : World) (u v : Value) (hu : TabC W 1000 u (tableZ zA)) (hv : TabC W 1000 v (tableZ zB)) => show Calls Tryd.prog 15 #[.slice (some ⟨W.heap.size, 0, none⟩) 2 2] (W.alloc (.cells #[u, v] 35)) (fun e w' => ∃ v', e = .returned v' ∧ TabC w' 1000 v' [⟨labs 0, [⟨10, 1⟩, ⟨20, 1⟩, ⟨30, 1⟩]⟩, ⟨labs 3, [⟨5, 1⟩]⟩] ∧ Below (W.alloc (.cells #[u, v] 35)).heap.size (W.alloc (.cells #[u, v] 35)) w') from by
    have := tables_P _ [zA.map onP, zB.map onP] _ (TsR.lit W [u, v] [zA.map onP, zB.map onP] 35 rfl (fun p x ps h1 h2 => by
      match p, h1, h2 with
      | 0, h1, h2 =>
        obtain rfl := Option.some.inj h1
        obtain rfl := Option.some.inj h2
        rw [← tableZ_P]; exact hu
      | 1, h1, h2 =>
        obtain rfl := Option.some.inj h1
        obtain rfl := Option.some.inj h2
        rw [← tableZ_P]; exact hv
      | p + 2, h1, _ => simp at h1)) (by decide) (by decide)
    rw [awake_Z] at this
    exact this)
  obtain ⟨ZA, hZA⟩ : ∃ ZA, ZA = tableZ zA := ⟨_, rfl⟩
  obtain ⟨ZB, hZB⟩ : ∃ ZB, ZB = tableZ zB := ⟨_, rfl⟩
  rw [← hZA] at TA TT
  rw [← hZB] at TB TT
  clear hZA hZB
  go_enter Tryd.func8, Tryd.ntmps8
  go_wp2_with fail
  refine (TA.out _).mono ?_
  rintro e w1 ⟨pv, tv, rfl, tc1, tr1, b1⟩
  have B1 := Lib.hid ((BA.out w _).trans (b1.mono (BA.out w (.cells #[.int .u8 0, .int .i64 10, .int .u64 1, .int .u8 0, .int .i64 20, .int .u64 1] 29)).size))
  obtain ⟨pa, pc, rfl⟩ := tc1.form
  obtain ⟨ta, tc, rfl⟩ := tr1.form
  have TC1 := Lib.hid tc1
  clear tc1 tr1 b1 TA
  go_wp2_with fail
  refine (TB.out _).mono ?_
  rintro e w2 ⟨pv2, tv2, rfl, tc2, tr2, b2⟩
  have b12 := (BA.out w1 _).trans (b2.mono (BA.out w1 (.cells #[.int .u8 0, .int .i64 20, .int .u64 1, .int .u8 0, .int .i64 30, .int .u64 1, .int .u8 3, .int .i64 5, .int .u64 1] 29)).size)
  have B2 := Lib.hid (B1.out.trans (b12.mono B1.out.size))
  obtain ⟨pa2, pc2, rfl⟩ := tc2.form
  obtain ⟨ta2, tc2', rfl⟩ := tr2.form
  have CT := Lib.hid (TT.out w2 _ _ ((TC1.out.on b12).mono (by omega)) (tc2.mono (by omega)))
  clear tc2 tr2 b2 TB TT TC1 b12
  go_wp2_with fail
  refine CT.out.mono ?_
  rintro e w3 ⟨v', rfl, tc3, b3⟩
  have B3 := Lib.hid (B2.out.trans (((BA.out w2 _).trans (b3.mono (BA.out w2 (.cells #[.slice pa ZA.length pc, .slice pa2 ZB.length pc2] 35)).size)).mono B2.out.size))
  have CN := Lib.hid (count14_any v' _ 1000 w3 tc3.r (by simp) (by omega))
  rw [awake_cnt] at CN
  obtain ⟨g, off, c, a0, c0, a1, c1, rfl, hgl, q0, q1⟩ := tc3.two
  simp only [List.length_cons, List.length_nil] at q0 q1
  clear tc3 b3 CT
  go_wp2_with fail
  refine CN.out.mono ?_
  rintro e w4 ⟨rfl, b4⟩
  go_wp2
  go_ret
  exact ⟨rfl, B3.out.trans (b4.mono B3.out.size)⟩
end Go.Proofs.YtabeaehiidnbbaaDoor

namespace Go.Proofs.YtabeaehiidnbbaaDoor
open Go.RowKit Go.Lib Go.Deep Go.ChangeShapes Go.WideShapes
set_option linter.unusedVariables false

theorem three14 {α : Type} (l : List α) (h : l.length = 3) : ∃ a b c, l = [a, b, c] := by
  match l, h with
  | [a, b, c], _ => exact ⟨a, b, c, rfl⟩
theorem ons_open {H : Type} {enc : TypeId × Value → H} {W : World} {base : Nat} {spare : Nat → Bool} {held : Bool} {fuel : Nat} {ao : Option Addr} {len cap : Nat} {x : DataW H × List MemPlace}
    (h : DataW.trod enc Tryd.prog W base spare held fuel 25 [.slice ao len cap] = some x) : ∃ zs, len ≤ maxLen ∧ OnR W ao len zs := by
  rcases open_slice Tryd.underlying25 h with ⟨hcs, _⟩ | ⟨a, len', cap', m, n, D, Pl, hcs, hb, hl, hm, hmm, _, hi⟩
  · simp only [List.cons.injEq, Value.slice.injEq, and_true] at hcs
    obtain ⟨rfl, rfl, rfl⟩ := hcs
    exact ⟨[], Nat.zero_le _, rfl, Nat.zero_le _, fun h => absurd h (Nat.lt_irrefl 0), fun z hz => by cases hz⟩
  · simp only [List.cons.injEq, Value.slice.injEq, and_true] at hcs
    obtain ⟨rfl, rfl, rfl⟩ := hcs
    have hlm : len ≤ m := by rw [hmm]; split <;> omega
    have ce : Tryd.prog.cellsOf 29 = 3 := by kernel_rfl
    have each : ∀ i, i < m → ∃ z : On, ((0 ≤ z.n ∧ z.n ≤ 255) ∧ -9223372036854775808 ≤ z.t ∧ z.t ≤ 9223372036854775807) ∧ W.cell? (a.add (i * 3)) = some (.int .u8 z.n) ∧ W.cell? ((a.add (i * 3)).add 1) = some (.int .i64 z.t) ∧ W.cell? ((a.add (i * 3)).add 2) = some (.int .u64 z.v) := by
      intro i him
      obtain ⟨cs', h1, h2⟩ := hi i him
      rw [ce] at h1
      obtain ⟨_, hlen, hcell⟩ := World.cells?_some h1
      obtain ⟨c0, c1, c2, rfl⟩ := three14 cs' hlen
      obtain ⟨xs, k, hk, hxy, _, hxl, hf⟩ := DataW.trod_struct Tryd.underlying29 h2
      obtain ⟨y0, y1, y2, rfl⟩ := three14 xs hxl
      have e0 := hcell 0 (by omega); have e1 := hcell 1 (by omega); have e2 := hcell 2 (by omega)
      have c8 : Tryd.prog.cellsOf 5 = 1 := by kernel_rfl
      have ci : Tryd.prog.cellsOf 2 = 1 := by kernel_rfl
      have cu : Tryd.prog.cellsOf 27 = 1 := by kernel_rfl
      have g0 := hf 0 _ rfl; have g1 := hf 1 _ rfl; have g2 := hf 2 _ rfl
      simp [c8, ci, cu] at g0 g1 g2
      obtain ⟨z0, q0, _, w0⟩ := DataW.trod_int Tryd.underlying5 g0
      obtain ⟨z1, q1, _, w1⟩ := DataW.trod_int Tryd.underlying2 g1
      obtain ⟨z2, q2, _, w2⟩ := DataW.trod_int Tryd.underlying27 g2
      simp only [List.cons.injEq, and_true] at q0 q1 q2
      have b0 := bd_u8 w0; have b1 := bd_i64 w1
      subst q0 q1 q2
      exact ⟨⟨z0, z1, z2⟩, ⟨⟨b0.1, Int.le_of_lt_add_one b0.2⟩, b1.1, b1.2⟩, by rw [add_add, Nat.add_zero] at e0; simpa using e0, by simpa using e1, by simpa using e2⟩
    obtain ⟨T, hT⟩ := choose_lt each
    refine ⟨(List.range (min len 40)).map T, Nat.le_trans hl hm, by simp, Nat.le_trans hl hm, fun h0 => ?_, fun t ht => ?_⟩
    · obtain ⟨b, off, spot⟩ := a
      have hspot : spot = none := by
        have := World.cell?_spot (hT 0 (by omega)).2.1
        simpa [Addr.add] using this
      subst hspot
      have hc0 := (hT 0 (by omega)).2.1
      refine ⟨b, off, rfl, ?_, fun i t hit => ?_⟩
      · have := World.block_lt_of_cell? W _ hc0
        rwa [add_plain] at this
      · have hlt : i < min len 40 := by
          have := (List.getElem?_eq_some_iff.1 hit).1
          simpa using this
        simp only [List.getElem?_map, List.getElem?_range hlt, Option.map_some, Option.some.injEq] at hit
        subst hit
        obtain ⟨_, d0, d1, d2⟩ := hT i (by omega)
        simp only [add_plain] at d0 d1 d2
        exact ⟨d0, d1, d2⟩
    · obtain ⟨i, hi2, rfl⟩ := List.mem_map.1 ht
      have := List.mem_range.1 hi2
      exact (hT i (by omega)).1
end Go.Proofs.YtabeaehiidnbbaaDoor

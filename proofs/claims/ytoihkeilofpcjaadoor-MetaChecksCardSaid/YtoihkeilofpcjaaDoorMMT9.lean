/- Layer 9: a meta that came in by value, opened with its lists (the first three files, the first sixty sources). -/
import Derived.Test.YtoihkeilofpcjaaDoorMMT8
import Derived.Test.YtoihkeilofpcjaaDoorMMH
import Derived.SliceStrings
import Derived.Deep.Slices
namespace Go.Proofs.YtoihkeilofpcjaaDoor
open Go.RowKit Go.Lib Go.Joins Go.ChangeShapes Go.WideShapes Go.Deep
set_option linter.unusedVariables false

instance : Inhabited Mt.Fl := ⟨⟨[], 0, 0⟩⟩

theorem flc_length (l : List Mt.Fl) : (flc l).length = l.length * 3 := by
  induction l with
  | nil => rfl
  | cons x l ih =>
    show ([Value.string (bs x.name), .int .i64 x.size, .int .u32 x.sum] ++ flc l).length = _
    rw [List.length_append, ih]
    simp only [List.length_cons, List.length_nil]
    omega

theorem add_plain9 (b off j : Nat) : (⟨b, off, none⟩ : Addr).add j = ⟨b, off + j, none⟩ := by
  cases j <;> rfl

set_option maxRecDepth 100000 in
theorem fls_open {H : Type} {enc : TypeId × Value → H} {W : World} {base : Nat} {spare : Nat → Bool} {held : Bool} {fuel : Nat} {ao : Option Addr} {len cap : Nat} {x : DataW H × List MemPlace}
    (h : DataW.trod enc Tryd.prog W base spare held fuel 22 [.slice ao len cap] = some x) :
    ∃ fs : List Mt.Fl, fs.length = min len 3 ∧ len ≤ cap ∧ cap ≤ maxLen ∧ Rd W 3 (.slice ao fs.length cap) fs.length (flc fs) ∧ ∀ f ∈ fs, f.sum < 4294967296 := by
  have ce : Tryd.prog.cellsOf 42 = 3 := by kernel_rfl
  rcases open_slice Tryd.underlying22 h with ⟨hcs, _⟩ | ⟨a, len', cap', m, n, D, Pl, hcs, hb, hl, hm, hmm, _, hi⟩
  · simp only [List.cons.injEq, Value.slice.injEq, and_true] at hcs
    obtain ⟨rfl, rfl, rfl⟩ := hcs
    exact ⟨[], by simp, Nat.le_refl _, Nat.zero_le _, ⟨by simp [flc], none, 0, 0, 0, rfl, fun h => absurd h (Nat.lt_irrefl 0), fun j hj => absurd hj (by simp)⟩, by simp⟩
  · simp only [List.cons.injEq, Value.slice.injEq, and_true] at hcs
    obtain ⟨rfl, rfl, rfl⟩ := hcs
    have hlm : len ≤ m := by rw [hmm]; split <;> omega
    have each : ∀ i, i < len → ∃ f : Mt.Fl, f.sum < 4294967296 ∧ W.cell? (a.add (i * 3)) = some (.string (bs f.name)) ∧ W.cell? (a.add (i * 3 + 1)) = some (.int .i64 f.size) ∧ W.cell? (a.add (i * 3 + 2)) = some (.int .u32 f.sum) := by
      intro i hil
      obtain ⟨cs', h1, h2⟩ := hi i (by omega)
      rw [ce] at h1
      obtain ⟨_, hlen, hcell⟩ := World.cells?_some h1
      obtain ⟨xs, k, hk, hxy, _, hxl, hf⟩ := DataW.trod_struct Tryd.underlying42 h2
      match xs, hxl, cs', hlen with
      | [y0, y1, y2], _, [v0, v1, v2], _ =>
        have g0 := hf 0 _ rfl
        have g1 := hf 1 _ rfl
        have g2 := hf 2 _ rfl
        have k2 : Tryd.prog.cellsOf 40 = 1 := by kernel_rfl
        simp [kS] at g0
        simp [kI] at g1
        simp [k2] at g2
        have e0 := hcell 0 (by omega)
        have e1 := hcell 1 (by omega)
        have e2 := hcell 2 (by omega)
        rw [add_add] at e0 e1 e2
        obtain ⟨s, q0, _, _⟩ := DataW.trod_string Tryd.underlying9 g0
        obtain ⟨i1, q1, _⟩ := DataW.trod_int Tryd.underlying3 g1
        obtain ⟨i2, q2, _, hw2⟩ := DataW.trod_int Tryd.underlying40 g2
        simp only [List.cons.injEq, and_true] at q0 q1 q2
        subst q0 q1 q2
        have hr : (0 : Int) ≤ i2 ∧ i2 < 4294967296 := by
          simp [Lit.wf, IntKind.min, IntKind.max, IntKind.signed, IntKind.bits] at hw2
          omega
        refine ⟨⟨s.data.toList, i1, i2.toNat⟩, by simp only; omega, ?_, ?_, ?_⟩
        · simpa [bs] using e0
        · simpa using e1
        · have : ((i2.toNat : Nat) : Int) = i2 := by omega
          simp only [this]
          simpa using e2
    obtain ⟨q, hq⟩ := choose_lt each
    refine ⟨(List.range (min len 3)).map q, by simp, hl, hm, ?_, ?_⟩
    · have hfl : ((List.range (min len 3)).map q).length = min len 3 := by simp
      refine ⟨flc_length _, ?_⟩
      rw [hfl]
      by_cases h0 : 0 < len
      · obtain ⟨b, off, spot⟩ := a
        have hc0 := (hq 0 h0).2.1
        have hspot : spot = none := by
          have := World.cell?_spot hc0
          simpa [Addr.add] using this
        subst hspot
        rw [add_plain9] at hc0
        refine ⟨_, cap, b, off, rfl, fun _ => ⟨rfl, World.block_lt_of_cell? W _ hc0⟩, fun j hj => ?_⟩
        obtain ⟨i, r, hr, rfl⟩ : ∃ i r, r < 3 ∧ j = i * 3 + r := ⟨j / 3, j % 3, Nat.mod_lt _ (by decide), by omega⟩
        have hil : i < min len 3 := by omega
        obtain ⟨_, c0, c1, c2⟩ := hq i (by omega)
        have hget : ((List.range (min len 3)).map q)[i]? = some (q i) := by simp [hil]
        obtain ⟨f0, f1, f2⟩ := flc_at _ i _ hget
        rw [add_plain9] at c0 c1 c2
        match r, hr with
        | 0, _ => rw [Nat.add_zero, f0]; exact c0
        | 1, _ => rw [f1]; exact c1
        | 2, _ => rw [f2]; exact c2
      · have : len = 0 := by omega
        subst this
        exact ⟨some a, cap, 0, 0, rfl, fun h => absurd h (by simp), fun j hj => absurd hj (by simp)⟩
    · intro f hf
      simp only [List.mem_map, List.mem_range] at hf
      obtain ⟨i, hil, rfl⟩ := hf
      exact (hq i (by omega)).1

theorem strs9_open {H : Type} {enc : TypeId × Value → H} {W : World} {base : Nat} {spare : Nat → Bool} {held : Bool} {fuel : Nat} {ao : Option Addr} {len cap : Nat} {x : DataW H × List MemPlace}
    (h : DataW.trod enc Tryd.prog W base spare held fuel 23 [.slice ao len cap] = some x) :
    ∃ ss : List (List UInt8), ss.length = min len 60 ∧ len ≤ cap ∧ cap ≤ maxLen ∧ Rd W 1 (.slice ao ss.length cap) ss.length (sc ss) := by
  have ce : Tryd.prog.cellsOf 9 = 1 := by kernel_rfl
  rcases open_strings Tryd.underlying23 Tryd.underlying9 ce h with ⟨hcs, _⟩ | ⟨a, len', cap', zs, hcs, hb, hl, hm, hlen, _, hcell, hwf⟩
  · simp only [List.cons.injEq, Value.slice.injEq, and_true] at hcs
    obtain ⟨rfl, rfl, rfl⟩ := hcs
    exact ⟨[], by simp, Nat.le_refl _, Nat.zero_le _, ⟨by simp [sc], none, 0, 0, 0, rfl, fun h => absurd h (Nat.lt_irrefl 0), fun j hj => absurd hj (by simp)⟩⟩
  · simp only [List.cons.injEq, Value.slice.injEq, and_true] at hcs
    obtain ⟨rfl, rfl, rfl⟩ := hcs
    have hz : len ≤ zs.length := by rw [hlen]; split <;> omega
    refine ⟨(List.range (min len 60)).map fun i => (zs.getD i ByteArray.empty).data.toList, by simp, hl, hm, ?_⟩
    have hfl : ((List.range (min len 60)).map fun i => (zs.getD i ByteArray.empty).data.toList).length = min len 60 := by simp
    refine ⟨by rw [sc_len, Nat.mul_one], ?_⟩
    rw [hfl]
    by_cases h0 : 0 < len
    · obtain ⟨b, off, spot⟩ := a
      have hc0 := hcell 0 (by omega)
      have hspot : spot = none := by
        have := World.cell?_spot hc0
        simpa [Addr.add] using this
      subst hspot
      rw [add_plain9] at hc0
      refine ⟨_, cap, b, off, rfl, fun _ => ⟨rfl, World.block_lt_of_cell? W _ hc0⟩, fun j hj => ?_⟩
      have hjl : j < min len 60 := by omega
      have c := hcell j (by omega)
      rw [add_plain9] at c
      rw [c]
      simp [sc, hjl, bs]
    · have : len = 0 := by omega
      subst this
      exact ⟨some a, cap, 0, 0, rfl, fun h => absurd h (by simp), fun j hj => absurd hj (by simp)⟩

/-- A meta that came in: its texts, numbers, and what is read of its lists. -/
structure MIn (W : World) (m : Mt.Me) (af : Option Addr) (nf kf : Nat) (a5 : Option Addr) (ns k5 : Nat) : Prop where
  hf : m.files.length = min nf 3
  hs : m.src.length = min ns 60
  hkf : nf ≤ kf
  hks : ns ≤ k5
  hmf : kf ≤ maxLen
  hms : k5 ≤ maxLen
  rf : Rd W 3 (.slice af m.files.length kf) m.files.length (flc m.files)
  rs : Rd W 1 (.slice a5 m.src.length k5) m.src.length (sc m.src)
  sum : ∀ f ∈ m.files, f.sum < 4294967296

set_option maxRecDepth 100000 in
theorem meta_open9 {H : Type} {enc : TypeId × Value → H} {w : World} {base b0 : Nat} {r : Reach} {spare : Nat → Bool} {held : Bool} {v : Value} {d : DataW H} {p : List MemPlace}
    (hv : Value.okWide Tryd.prog w r b0 25 v) (h : DataW.Trod enc Tryd.prog w base spare held 25 v d p) :
    ∃ (m : Mt.Me) (af : Option Addr) (nf kf : Nat) (a5 : Option Addr) (ns k5 : Nat),
      v = .agg #[.string (bs m.id), .int .i64 m.mn, .int .i64 m.mx, .int .i64 m.lv, .int .i64 m.se, .int .i64 m.sa, .slice af nf kf, .slice a5 ns k5] ∧ MIn w m af nf kf a5 ns k5 := by
  obtain ⟨cs, rfl, hsz⟩ := okWide_struct Tryd.underlying25 hv
  obtain ⟨l⟩ := cs
  match l, hsz.trans kM with
  | [c0, c1, c2, c3, c4, c5, c6, c7], _ =>
    obtain ⟨fuel, hf⟩ := h
    obtain ⟨xs, n, _, _, _, hlen, hg⟩ := DataW.trod_struct Tryd.underlying25 hf
    match xs, hlen with
    | [y0, y1, y2, y3, y4, y5, y6, y7], _ =>
      have h0 := hg 0 _ rfl
      have h1 := hg 1 _ rfl
      have h2 := hg 2 _ rfl
      have h3 := hg 3 _ rfl
      have h4 := hg 4 _ rfl
      have h5 := hg 5 _ rfl
      have h6 := hg 6 _ rfl
      have h7 := hg 7 _ rfl
      simp [Value.cells, kS] at h0
      simp [Value.cells, kJ] at h1
      simp [Value.cells, kJ] at h2
      simp [Value.cells, kI] at h3
      simp [Value.cells, kI] at h4
      simp [Value.cells, kI] at h5
      simp [Value.cells, kF] at h6
      simp [Value.cells, kT] at h7
      obtain ⟨s, e0, _, z0⟩ := DataW.trod_string Tryd.underlying9 h0
      obtain ⟨i1, e1, _⟩ := DataW.trod_int Tryd.underlying2 h1
      obtain ⟨i2, e2, _⟩ := DataW.trod_int Tryd.underlying2 h2
      obtain ⟨i3, e3, _⟩ := DataW.trod_int Tryd.underlying3 h3
      obtain ⟨i4, e4, _⟩ := DataW.trod_int Tryd.underlying3 h4
      obtain ⟨i5, e5, _⟩ := DataW.trod_int Tryd.underlying3 h5
      obtain ⟨a6, n6, k6, rfl, _⟩ := slice_shape Tryd.underlying22 h6
      obtain ⟨a7, n7, k7, rfl, m7⟩ := slice_shape Tryd.underlying23 h7
      obtain ⟨fs, f1, f2, f3, f4, f5⟩ := fls_open h6
      obtain ⟨ss, g1, g2, g3, g4⟩ := strs9_open h7
      simp only [List.cons.injEq, and_true] at e0 e1 e2 e3 e4 e5
      subst e0 e1 e2 e3 e4 e5
      exact ⟨⟨s.data.toList, i1, i2, i3, i4, i5, fs, ss⟩, a6, n6, k6, a7, n7, k7, rfl, f1, g1, f2, g2, f3, g3, f4, g4, f5⟩
end Go.Proofs.YtoihkeilofpcjaaDoor

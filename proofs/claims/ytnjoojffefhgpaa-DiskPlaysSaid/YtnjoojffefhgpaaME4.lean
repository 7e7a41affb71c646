/- A slice of acts that came in, opened; a slice of truths. A file that all calls leave: lemmas for DiskOthers. -/
import Derived.Test.YtnjoojffefhgpaaME0
import Derived.Deep.SlicePairs
import Derived.Test.YtnjoojffefhgpaaMD17
namespace Go.Proofs.Ytnjoojffefhgpaa
open Go.RowKit Go.Lib Go.Deep Go.ChangeShapes Go.WideShapes

/-- An act; cv is the slice of its choices. -/
structure Ac where
  k : Int
  n : Int
  a : ByteArray
  b : ByteArray
  dn : Bool
  av : Option Addr
  lv : Nat
  cv : Nat
  ch : List Int
structure Ac.Fits (w : World) (t : Ac) : Prop where
  k0 : -9223372036854775808 ≤ t.k
  k1 : t.k ≤ 9223372036854775807
  n0 : -9223372036854775808 ≤ t.n
  n1 : t.n ≤ 9223372036854775807
  a1 : t.a.size ≤ maxLen
  b1 : t.b.size ≤ maxLen
  ints : IntsAt w t.av t.lv t.cv t.ch
instance : Inhabited Ac := ⟨⟨0, 0, ByteArray.empty, ByteArray.empty, false, none, 0, 0, []⟩⟩
/-- Acts read from cells: the first 40. -/
def ActsAt (w : World) (ao : Option Addr) (len : Nat) (ts : List Ac) : Prop :=
  ts.length = min len 40 ∧ (∀ t ∈ ts, t.Fits w) ∧ (0 < len → ∃ b off, ao = some ⟨b, off, none⟩ ∧ b < w.heap.size ∧ ∀ i t, ts[i]? = some t →
    w.cell? ⟨b, off + i * 6, none⟩ = some (.int .i64 t.k) ∧ w.cell? ⟨b, off + i * 6 + 1, none⟩ = some (.int .i64 t.n) ∧ w.cell? ⟨b, off + i * 6 + 2, none⟩ = some (.string t.a) ∧
    w.cell? ⟨b, off + i * 6 + 3, none⟩ = some (.string t.b) ∧ w.cell? ⟨b, off + i * 6 + 4, none⟩ = some (.bool t.dn) ∧ w.cell? ⟨b, off + i * 6 + 5, none⟩ = some (.slice t.av t.lv t.cv))

theorem six {α : Type} (l : List α) (h : l.length = 6) : ∃ a b c d e f, l = [a, b, c, d, e, f] := by
  match l, h with
  | [a, b, c, d, e, f], _ => exact ⟨a, b, c, d, e, f, rfl⟩
theorem ints_one {H : Type} {enc : TypeId × Value → H} {W : World} {base : Nat} {spare : Nat → Bool} {held : Bool} {fuel : Nat} {v : Value} {x : DataW H × List MemPlace}
    (h : DataW.trod enc Try.prog W base spare held fuel 38 [v] = some x) : ∃ a len cap zs, v = .slice a len cap ∧ IntsAt W a len cap zs := by
  have ce : Try.prog.cellsOf 3 = 1 := by kernel_rfl
  have h2 : ∃ a len cap, v = .slice a len cap := by
    rcases open_ints Try.underlying38 Try.underlying3 ce h with ⟨hcs, _⟩ | ⟨a, len', cap', zs, hcs, _⟩
    · simp only [List.cons.injEq, and_true] at hcs
      exact ⟨_, _, _, hcs⟩
    · simp only [List.cons.injEq, and_true] at hcs
      exact ⟨_, _, _, hcs⟩
  obtain ⟨a, len, cap, rfl⟩ := h2
  obtain ⟨zs, _, hz⟩ := ints_open h
  exact ⟨a, len, cap, zs, rfl, hz⟩

theorem acts_open {H : Type} {enc : TypeId × Value → H} {W : World} {base : Nat} {spare : Nat → Bool} {held : Bool} {fuel : Nat} {ao : Option Addr} {len cap : Nat} {x : DataW H × List MemPlace}
    (h : DataW.trod enc Try.prog W base spare held fuel 22 [.slice ao len cap] = some x) : ∃ ts, len ≤ maxLen ∧ ActsAt W ao len ts := by
  rcases open_slice Try.underlying22 h with ⟨hcs, _⟩ | ⟨a, len', cap', m, n, D, Pl, hcs, hb, hl, hm, hmm, _, hi⟩
  · simp only [List.cons.injEq, Value.slice.injEq, and_true] at hcs
    obtain ⟨rfl, rfl, rfl⟩ := hcs
    exact ⟨[], Nat.zero_le _, by simp, by simp, fun h => absurd h (Nat.lt_irrefl 0)⟩
  · simp only [List.cons.injEq, Value.slice.injEq, and_true] at hcs
    obtain ⟨rfl, rfl, rfl⟩ := hcs
    have hlm : len ≤ m := by rw [hmm]; split <;> omega
    have ce : Try.prog.cellsOf 40 = 6 := by kernel_rfl
    have each : ∀ i, i < m → ∃ t : Ac, t.Fits W ∧ W.cell? (a.add (i * 6)) = some (.int .i64 t.k) ∧ W.cell? ((a.add (i * 6)).add 1) = some (.int .i64 t.n) ∧ W.cell? ((a.add (i * 6)).add 2) = some (.string t.a) ∧ W.cell? ((a.add (i * 6)).add 3) = some (.string t.b) ∧ W.cell? ((a.add (i * 6)).add 4) = some (.bool t.dn) ∧ W.cell? ((a.add (i * 6)).add 5) = some (.slice t.av t.lv t.cv) := by
      intro i him
      obtain ⟨cs', h1, h2⟩ := hi i him
      rw [ce] at h1
      obtain ⟨_, hlen, hcell⟩ := World.cells?_some h1
      obtain ⟨c0, c1, c2, c3, c4, c5, rfl⟩ := six cs' hlen
      obtain ⟨xs, k, hk, hxy, _, hxl, hf⟩ := DataW.trod_struct Try.underlying40 h2
      obtain ⟨y0, y1, y2, y3, y4, y5, rfl⟩ := six xs hxl
      have e0 := hcell 0 (by omega); have e1 := hcell 1 (by omega); have e2 := hcell 2 (by omega); have e3 := hcell 3 (by omega); have e4 := hcell 4 (by omega); have e5 := hcell 5 (by omega)
      have ci : Try.prog.cellsOf 3 = 1 := by kernel_rfl
      have cs : Try.prog.cellsOf 9 = 1 := by kernel_rfl
      have cb : Try.prog.cellsOf 4 = 1 := by kernel_rfl
      have cl : Try.prog.cellsOf 38 = 1 := by kernel_rfl
      have g0 := hf 0 _ rfl; have g1 := hf 1 _ rfl; have g2 := hf 2 _ rfl; have g3 := hf 3 _ rfl; have g4 := hf 4 _ rfl; have g5 := hf 5 _ rfl
      simp [ci, cs, cb, cl] at g0 g1 g2 g3 g4 g5
      obtain ⟨z0, q0, _, w0⟩ := DataW.trod_int Try.underlying3 g0
      obtain ⟨z1, q1, _, w1⟩ := DataW.trod_int Try.underlying3 g1
      obtain ⟨z2, q2, _, w2⟩ := DataW.trod_string Try.underlying9 g2
      obtain ⟨z3, q3, _, w3⟩ := DataW.trod_string Try.underlying9 g3
      obtain ⟨z4, q4, _⟩ := DataW.trod_bool Try.underlying4 g4
      obtain ⟨av, lv, cv, ch, q5, w5⟩ := ints_one g5
      simp only [List.cons.injEq, and_true] at q0 q1 q2 q3 q4
      have b0 := bd_i64 w0; have b1 := bd_i64 w1
      subst q0 q1 q2 q3 q4 q5
      exact ⟨⟨z0, z1, z2, z3, z4, av, lv, cv, ch⟩, ⟨b0.1, b0.2, b1.1, b1.2, w2, w3, w5⟩, by rw [add_add, Nat.add_zero] at e0; simpa using e0, by simpa using e1, by simpa using e2, by simpa using e3, by simpa using e4, by simpa using e5⟩
    obtain ⟨T, hT⟩ := choose_lt each
    refine ⟨(List.range (min len 40)).map T, Nat.le_trans hl hm, by simp, fun t ht => ?_, fun h0 => ?_⟩
    · obtain ⟨i, hi2, rfl⟩ := List.mem_map.1 ht
      have := List.mem_range.1 hi2
      exact (hT i (by omega)).1
    · obtain ⟨b, off, spot⟩ := a
      have hspot : spot = none := by
        have := World.cell?_spot (hT 0 (by omega)).2.1
        simpa [Addr.add] using this
      subst hspot
      have hc0 := (hT 0 (by omega)).2.1
      refine ⟨b, off, rfl, ?_, fun i t hit => ?_⟩
      · have := World.block_lt_of_cell? W _ hc0
        rwa [add_plain] at this
      · have hlt : i < min len 40 := by
          have := (List.getElem?_eq_some_iff.1 hit).1
          simpa using this
        simp only [List.getElem?_map, List.getElem?_range hlt, Option.map_some, Option.some.injEq] at hit
        subst hit
        obtain ⟨_, d0, d1, d2, d3, d4, d5⟩ := hT i (by omega)
        simp only [add_plain] at d0 d1 d2 d3 d4 d5
        exact ⟨d0, d1, d2, d3, d4, d5⟩
end Go.Proofs.Ytnjoojffefhgpaa

namespace Go.Proofs.Ytnjoojffefhgpaa
open Go.Conc Go.RowKit

theorem arm_any (f c : Nat) (A : List Ft) (a : Int) (dn : Bool) (w : World) (h : Holds f c A w) (ha : Ft.Fits (a, dn)) :
    Calls Try.prog 21 #[.pointer (some ⟨f, 0, none⟩), .int .i64 a, .bool dn] w fun e w' => (e = .returned (.int .i64 0) ∧ Holds f c (A ++ [(max a 0, dn)]) w' ∧ Turn (Own f c) w w') ∨ (e = .returned (.int .i64 7) ∧ w = w') := by
  obtain ⟨L, armed, now, hF, rfl⟩ := h
  by_cases hl : L.length < 16
  · refine (arm_room f c L armed now a dn w hF hl).mono ?_
    rintro e w' ⟨rfl, hc, t⟩
    refine .inl ⟨rfl, ⟨L ++ [(a, dn)], armed, now, hF.turn t hc (by simp; omega) (fun x hx => ?_), ?_⟩, t.mono fun k hk => .inr hk⟩
    · rw [List.mem_append, List.mem_singleton] at hx
      rcases hx with hx | rfl
      · exact hF.fits x hx
      · exact ha
    · unfold view
      cases armed <;> simp
  · have := hF.few
    refine (arm_full f c L armed now a dn w hF (by omega)).mono ?_
    rintro e w' ⟨rfl, rfl⟩
    exact .inr ⟨rfl, rfl⟩

theorem look_set_other (k n : ByteArray) (v : Value) (data : List UInt8) (s b : Nat) (hne : k ≠ n) : ∀ fs : List Fl, lookF k (setF n v data s b fs) = lookF k fs
  | [] => by simp [setF, lookF, hne]
  | e :: es => by
    have ih := look_set_other k n v data s b hne es
    unfold setF
    by_cases h : n = e.name
    · rw [if_pos h]
      have hk : k ≠ e.name := fun e2 => hne (e2.trans h.symm)
      simp [lookF, hk]
    · rw [if_neg h]
      simp only [lookF]
      by_cases hk : k = e.name
      · rw [if_pos hk, if_pos hk]
      · rw [if_neg hk, if_neg hk, ih]
theorem look_del_other (k n : ByteArray) (hne : k ≠ n) : ∀ fs : List Fl, lookF k (delF n fs) = lookF k fs
  | [] => rfl
  | e :: es => by
    have ih := look_del_other k n hne es
    unfold delF
    by_cases h : n = e.name
    · rw [if_pos h]
      have hk : k ≠ e.name := fun e2 => hne (e2.trans h.symm)
      simp [lookF, hk]
    · rw [if_neg h]
      simp only [lookF]
      by_cases hk : k = e.name
      · rw [if_pos hk, if_pos hk]
      · rw [if_neg hk, if_neg hk, ih]
/-- A crash leaves a file whose bytes are all there for sure. -/
theorem crash_keeps (k : ByteArray) (x : Fl) (hx : x.data.length - x.sure = 0) : ∀ (ns : List (List UInt8)) (cs : List Int) (fs : List Fl), lookF k fs = some x → lookF k (crashL ns cs fs) = some x
  | [], _, fs, h => h
  | n :: ns, cs, fs, h => by
    cases hl : lookF ⟨n.toArray⟩ fs with
    | none =>
      have : crashL (n :: ns) cs fs = crashL ns cs fs := by
        conv => lhs; unfold crashL
        rw [hl]
      rw [this]
      exact crash_keeps k x hx ns cs fs h
    | some y =>
      by_cases hz : y.data.length - y.sure = 0
      · rw [crashL_same n ns cs fs y hl hz]
        exact crash_keeps k x hx ns cs fs h
      · rw [crashL_cut n ns cs fs y hl hz]
        refine crash_keeps k x hx ns _ _ ?_
        rw [look_set_other]
        · exact h
        · intro e
          have hy := (look_mem _ fs y hl).2
          rw [e, hy, hl] at h
          cases h
          exact hz hx
theorem set_len (k : ByteArray) (v : Value) (data : List UInt8) (s b : Nat) : ∀ fs : List Fl, (setF k v data s b fs).length ≤ fs.length + 1
  | [] => by simp [setF]
  | e :: es => by
    have := set_len k v data s b es
    unfold setF
    split <;> simp <;> omega
theorem crash_len : ∀ (ns : List (List UInt8)) (cs : List Int) (fs : List Fl), (crashL ns cs fs).map (·.name) = fs.map (·.name)
  | [], _, fs => rfl
  | n :: ns, cs, fs => by
    cases hl : lookF ⟨n.toArray⟩ fs with
    | none =>
      have : crashL (n :: ns) cs fs = crashL ns cs fs := by
        conv => lhs; unfold crashL
        rw [hl]
      rw [this]
      exact crash_len ns cs fs
    | some y =>
      by_cases hz : y.data.length - y.sure = 0
      · rw [crashL_same n ns cs fs y hl hz]
        exact crash_len ns cs fs
      · rw [crashL_cut n ns cs fs y hl hz, crash_len ns]
        refine set_names_eq _ _ _ _ _ _ ?_
        rw [(look_mem _ fs y hl).2, hl]
        rfl
end Go.Proofs.Ytnjoojffefhgpaa

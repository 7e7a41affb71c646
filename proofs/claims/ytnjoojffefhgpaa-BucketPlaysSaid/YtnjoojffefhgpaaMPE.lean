/- The document's Range. The document's Change: a name that may not be; any. Layer 5: are objects told as they should be: lists. -/
import Derived.Test.YtnjoojffefhgpaaMPD
import Derived.Test.YtnjoojffefhgpaaMPA
namespace Go.Proofs.Ytnjoojffefhgpaa
open Go.Conc Go.RowKit
set_option linter.unusedVariables false

/-- What the document's Range says. -/
def atR (k : ByteArray) (xs : List Rj) : Option Rj := (idxR k xs).bind fun i => xs[i]?
def rangeX (k : ByteArray) (a n : Int) (xs : List Rj) : ByteArray × Int := match atR k xs with
  | none => (ByteArray.empty, 5)
  | some x => if a < 0 ∨ (x.data.size : Int) < a ∨ n < 0 then (ByteArray.empty, 1) else (partB x.data a n, 0)
theorem range_rel {os : List Ob} {xs : List Rj} (h : RelB os xs) (k : ByteArray) (a n : Int) : rangeX k a n xs = rangeR k a n os := by
  unfold rangeX rangeR atR
  rcases look_rel h k with ⟨h1, h2⟩ | ⟨x, i, h1, h2, h3⟩
  · rw [h1, h2]; rfl
  · rw [h1, h2]
    simp only [Option.bind_some, h3]
    rfl
theorem idxR_lt (k : ByteArray) : ∀ (xs : List Rj) (i : Nat), idxR k xs = some i → i < xs.length
  | [], i, h => by simp [idxR] at h
  | x :: xs, i, h => by
    unfold idxR at h
    by_cases hx : x.name = k
    · simp [hx] at h; rw [← h]; simp
    · simp [hx] at h
      obtain ⟨j, hj, rfl⟩ := h
      have := idxR_lt k xs j hj
      simp; omega

set_option maxHeartbeats 2000000 in
set_option maxRecDepth 100000 in
theorem rrange_any (base : Nat) (v u : Value) (xs : List Rj) (k : ByteArray) (a n : Int) (w : World) (hs : Sl w base 3 v xs.length (rjc xs)) (hlen : xs.length ≤ 1000) (hu : ∃ a n c, u = .slice a n c) :
    Calls Try.prog 41 #[rbv v u, .string k, .int .i64 a, .int .i64 n] w fun e w' => e = .returned (.tuple #[.string (rangeX k a n xs).1, .int .i64 (rangeX k a n xs).2]) ∧ Below w.heap.size w w' := by
  obtain ⟨ua, un, uc, rfl⟩ := hu
  obtain ⟨va, vc, rfl⟩ := hs.slice
  obtain ⟨m, hm⟩ : ∃ m, m = xs.length := ⟨_, rfl⟩
  have FD := Lib.hid (rfind_any base (.slice va m vc) (.slice ua un uc) xs k (w.alloc (.cells #[.slice va m vc, .slice ua un uc] 52)) (by rw [hm]; exact hs.alloc _) hlen ⟨_, _, _, rfl⟩)
  have HS := Lib.hid hs
  rw [← hm]
  have KC := Lib.hid (fun w1 (b1 : Below (w.alloc (.cells #[.slice va m vc, .slice ua un uc] 52)).heap.size (w.alloc (.cells #[.slice va m vc, .slice ua un uc] 52)) w1) => show w1.cell? ⟨w.heap.size, 0, none⟩ = some (.slice va m vc) from (b1.cell (p := ⟨w.heap.size, 0, none⟩) (by simp)).trans ((cell_of_row _ _ 0 _ _ _ (heap_alloc_new w _)).trans rfl))
  have HM := Lib.hid hm
  clear hs hm
  unfold rbv at FD ⊢
  cases hi : idxR k xs with
  | none =>
    have hX : rangeX k a n xs = (ByteArray.empty, 5) := by unfold rangeX atR; rw [hi]; rfl
    rw [hX]
    rw [show findR k xs = -1 by unfold findR; rw [hi]] at FD
    clear hX hi
    go_enter Try.func41, Try.ntmps41
    go_wp2_with fail
    refine FD.out.mono ?_
    rintro e w1 ⟨rfl, b1⟩
    have k0 := KC.out w1 b1
    have bb := Lib.hid (((Below.refl w.heap.size w).alloc (Nat.le_refl _) _).trans (b1.mono (by simp)))
    clear b1
    go_wp2
    go_ret2
    exact ⟨rfl, bb.out⟩
  | some i =>
    have hil := idxR_lt k xs i hi
    obtain ⟨x, hx⟩ : ∃ x, xs[i]? = some x := ⟨xs[i], List.getElem?_eq_getElem hil⟩
    have hX : rangeX k a n xs = if a < 0 ∨ (x.data.size : Int) < a ∨ n < 0 then (ByteArray.empty, 1) else (partB x.data a n, 0) := by
      unfold rangeX atR; rw [hi]; simp only [Option.bind_some, hx]
    rw [hX]
    rw [show findR k xs = (i : Int) by unfold findR; rw [hi]] at FD
    obtain ⟨s, hs⟩ : ∃ s, s = x.data := ⟨_, rfl⟩
    rw [← hs]
    have hSL := HS.out
    obtain ⟨gl, ol, cl, ea, _, _, _⟩ := hSL.somewhere (by omega)
    cases ea
    have QC := Lib.hid (fun w1 (b : Below w.heap.size w w1) => show w1.cell? ⟨gl, ol + i * 3 + 1, none⟩ = some (.string s) by
      have h := (hSL.on b).cells (i * 3 + 1) _ (rjc_at xs i x hx).2.1
      rw [Addr.add_lit, ← Nat.add_assoc, ← hs] at h
      exact h)
    have him : (i : Int) < m := by rw [HM.out]; omega
    have hi0 : ¬ (i : Int) < 0 := by omega
    clear hs hX hx hSL hi hil
    by_cases hb : a < 0 ∨ (s.size : Int) < a ∨ n < 0
    · rw [if_pos hb]
      by_cases h1 : a < 0
      · clear hb
        go_enter Try.func41, Try.ntmps41
        go_wp2_with fail
        refine FD.out.mono ?_
        rintro e w1 ⟨rfl, b1⟩
        have k0 := KC.out w1 b1
        have bb := Lib.hid (((Below.refl w.heap.size w).alloc (Nat.le_refl _) _).trans (b1.mono (by simp)))
        have q1 := QC.out w1 bb.out
        clear b1
        go_wp2
        go_ret2
        exact ⟨rfl, bb.out⟩
      · by_cases h2 : (s.size : Int) < a
        · clear hb
          go_enter Try.func41, Try.ntmps41
          go_wp2_with fail
          refine FD.out.mono ?_
          rintro e w1 ⟨rfl, b1⟩
          have k0 := KC.out w1 b1
          have bb := Lib.hid (((Below.refl w.heap.size w).alloc (Nat.le_refl _) _).trans (b1.mono (by simp)))
          have q1 := QC.out w1 bb.out
          clear b1
          go_wp2
          go_ret2
          exact ⟨rfl, bb.out⟩
        · have h3 : n < 0 := by omega
          clear hb
          go_enter Try.func41, Try.ntmps41
          go_wp2_with fail
          refine FD.out.mono ?_
          rintro e w1 ⟨rfl, b1⟩
          have k0 := KC.out w1 b1
          have bb := Lib.hid (((Below.refl w.heap.size w).alloc (Nat.le_refl _) _).trans (b1.mono (by simp)))
          have q1 := QC.out w1 bb.out
          clear b1
          go_wp2
          go_ret2
          exact ⟨rfl, bb.out⟩
    · rw [if_neg hb]
      obtain ⟨a', rfl⟩ : ∃ a' : Nat, a = a' := ⟨a.toNat, by omega⟩
      obtain ⟨n', rfl⟩ : ∃ n' : Nat, n = n' := ⟨n.toNat, by omega⟩
      have h2' : a' ≤ s.size := by omega
      have g1 : ¬ (s.size : Int) < a' := by omega
      clear hb
      by_cases h4 : n' < s.size - a'
      · have hp := Lib.hid (part_eq s a' n' n' h2' (by omega))
        have g2 : n' ≤ s.size - a' := by omega
        go_enter Try.func41, Try.ntmps41
        go_wp2_with fail
        refine FD.out.mono ?_
        rintro e w1 ⟨rfl, b1⟩
        have k0 := KC.out w1 b1
        have bb := Lib.hid (((Below.refl w.heap.size w).alloc (Nat.le_refl _) _).trans (b1.mono (by simp)))
        have q1 := QC.out w1 bb.out
        clear b1
        go_wp2
        all_goals first
          | (exfalso; omega)
          | (go_ret2; exact ⟨by rw [← hp.out]; rfl, bb.out⟩)
      · have hp := part_eq s a' n' (s.size - a') h2' (by omega)
        rw [show (s.extract a' s.size).extract 0 (s.size - a') = s.extract a' s.size by
          have h := ByteArray.extract_zero_size (b := s.extract a' s.size)
          rw [ByteArray.size_extract, Nat.min_self] at h
          exact h] at hp
        have HP := Lib.hid hp
        clear hp
        go_enter Try.func41, Try.ntmps41
        go_wp2_with fail
        refine FD.out.mono ?_
        rintro e w1 ⟨rfl, b1⟩
        have k0 := KC.out w1 b1
        have bb := Lib.hid (((Below.refl w.heap.size w).alloc (Nat.le_refl _) _).trans (b1.mono (by simp)))
        have q1 := QC.out w1 bb.out
        clear b1
        go_wp2
        all_goals first
          | (exfalso; omega)
          | (go_ret2; exact ⟨by rw [← HP.out]; rfl, bb.out⟩)
end Go.Proofs.Ytnjoojffefhgpaa

namespace Go.Proofs.Ytnjoojffefhgpaa
open Go.Conc Go.RowKit
set_option linter.unusedVariables false

set_option maxHeartbeats 2000000 in
set_option maxRecDepth 100000 in
theorem rchange_bad (v u : Value) (x : Rj) (w : World) (hv : ∃ a n c, v = .slice a n c) (hu : ∃ a n c, u = .slice a n c) (hg : x.name.size = 0 ∨ 40 < x.name.size) :
    Calls Try.prog 39 #[rbv v u, .agg #[.string x.name, .string x.data, .int .i64 x.tm], .bool true] w fun e w' => e = .returned (.tuple #[rbv v u, .int .i64 1]) ∧ Below w.heap.size w w' := by
  obtain ⟨va, vn, vc, rfl⟩ := hv
  obtain ⟨ua, un, uc, rfl⟩ := hu
  unfold rbv
  by_cases h0 : x.name.size = 0
  · have h1 : (x.name.toList == []) = true := by
      have : x.name.toList = [] := by
        rw [ByteArray.toList_eq]
        exact List.eq_nil_of_length_eq_zero (by rw [Array.length_toList]; exact h0)
      rw [this]; rfl
    clear hg h0
    go_enter Try.func39, Try.ntmps39
    go_wp2_with fail
    obtain ⟨Y, hY⟩ : ∃ Y, Y = ((w.alloc (.cells #[.slice va vn vc, .slice ua un uc] 52)).alloc (.cells #[.string x.name, .string x.data, .int .i64 x.tm] 64)).alloc (.cells #[.slice va vn vc, .slice ua un uc] 52) := ⟨_, rfl⟩
    have hh : Y.heap[w.heap.size + 1 + 1]? = some (.cells #[.slice va vn vc, .slice ua un uc] 52) := by
      have := heap_alloc_new ((w.alloc (.cells #[.slice va vn vc, .slice ua un uc] 52)).alloc (.cells #[.string x.name, .string x.data, .int .i64 x.tm] 64)) (.cells #[.slice va vn vc, .slice ua un uc] 52)
      simp only [World.size_alloc] at this
      rw [hY]; exact this
    have c0 : Y.cell? ⟨w.heap.size + 1 + 1, 0, none⟩ = some (.slice va vn vc) := (cell_of_row _ _ 0 _ _ _ hh).trans rfl
    have c1 : Y.cell? ⟨w.heap.size + 1 + 1, 1, none⟩ = some (.slice ua un uc) := (cell_of_row _ _ 1 _ _ _ hh).trans rfl
    have hb : Below w.heap.size w Y := by rw [hY]; exact (((Below.refl _ _).alloc (Nat.le_refl _) _).alloc (by simp) _).alloc (by simp; omega) _
    rw [← hY]
    refine bodyPost_ret (by simp [results, Try.results39, go_sem, c0, c1]; rfl) rfl ?_
    exact ⟨rfl, hb⟩
  · have h2 : (40 : Int) < x.name.size := by omega
    have h1 : (x.name.toList == []) = false := by
      rw [Bool.eq_false_iff]
      intro e
      have e2 := eq_of_beq e
      rw [ByteArray.toList_eq] at e2
      refine h0 ?_
      show x.name.data.size = 0
      rw [← Array.length_toList, e2]; rfl
    clear hg h0
    go_enter Try.func39, Try.ntmps39
    go_wp2_with fail
    obtain ⟨Y, hY⟩ : ∃ Y, Y = ((w.alloc (.cells #[.slice va vn vc, .slice ua un uc] 52)).alloc (.cells #[.string x.name, .string x.data, .int .i64 x.tm] 64)).alloc (.cells #[.slice va vn vc, .slice ua un uc] 52) := ⟨_, rfl⟩
    have hh : Y.heap[w.heap.size + 1 + 1]? = some (.cells #[.slice va vn vc, .slice ua un uc] 52) := by
      have := heap_alloc_new ((w.alloc (.cells #[.slice va vn vc, .slice ua un uc] 52)).alloc (.cells #[.string x.name, .string x.data, .int .i64 x.tm] 64)) (.cells #[.slice va vn vc, .slice ua un uc] 52)
      simp only [World.size_alloc] at this
      rw [hY]; exact this
    have c0 : Y.cell? ⟨w.heap.size + 1 + 1, 0, none⟩ = some (.slice va vn vc) := (cell_of_row _ _ 0 _ _ _ hh).trans rfl
    have c1 : Y.cell? ⟨w.heap.size + 1 + 1, 1, none⟩ = some (.slice ua un uc) := (cell_of_row _ _ 1 _ _ _ hh).trans rfl
    have hb : Below w.heap.size w Y := by rw [hY]; exact (((Below.refl _ _).alloc (Nat.le_refl _) _).alloc (by simp) _).alloc (by simp; omega) _
    rw [← hY]
    refine bodyPost_ret (by simp [results, Try.results39, go_sem, c0, c1]; rfl) rfl ?_
    exact ⟨rfl, hb⟩

theorem rchange_any (base : Nat) (v u : Value) (xs : List Rj) (A : List Ft) (x : Rj) (put : Bool) (w : World) (hs : Sl w base 3 v xs.length (rjc xs)) (hlen : xs.length ≤ 900) (hu : Sl w base 2 u A.length (ftc A)) (hb : base ≤ w.heap.size) (hA : A.length ≤ 101) (hf : ∀ x ∈ A, Ft.Fits x) (hx : x.name.size ≤ 1000) :
    Calls Try.prog 39 #[rbv v u, .agg #[.string x.name, .string x.data, .int .i64 x.tm], .bool put] w fun e w' => ∃ v' u', e = .returned (.tuple #[rbv v' u', .int .i64 (chR x put xs A).2.2]) ∧ Sl w' base 3 v' (chR x put xs A).1.length (rjc (chR x put xs A).1) ∧ Sl w' base 2 u' (chR x put xs A).2.1.length (ftc (chR x put xs A).2.1) ∧ (∀ k, v'.ownBlock = some k → v.ownBlock = some k ∨ w.heap.size ≤ k) ∧ (∀ k, u'.ownBlock = some k → u.ownBlock = some k ∨ w.heap.size ≤ k) ∧ Below w.heap.size w w' := by
  by_cases hg : put = true ∧ (x.name.size = 0 ∨ 40 < x.name.size)
  · have hv' : ∃ a n c, v = .slice a n c := by obtain ⟨a, c, e⟩ := hs.slice; exact ⟨_, _, _, e⟩
    have hu' : ∃ a n c, u = .slice a n c := by obtain ⟨a, c, e⟩ := hu.slice; exact ⟨_, _, _, e⟩
    rw [hg.1]
    refine (rchange_bad v u x w hv' hu' hg.2).mono ?_
    rintro e w' ⟨rfl, b⟩
    have hc : chR x true xs A = (xs, A, 1) := by unfold chR; rw [if_pos ⟨rfl, hg.2⟩]
    rw [hc]
    exact ⟨v, u, rfl, hs.on b, hu.on b, fun k hk => .inl hk, fun k hk => .inl hk, b⟩
  · exact rchange_go base v u xs A x put w hs hlen hu hb hA hf hg hx
end Go.Proofs.Ytnjoojffefhgpaa

namespace Go.Proofs.Ytnjoojffefhgpaa
open Go.Conc Go.RowKit
set_option linter.unusedVariables false

theorem infc_at : ∀ (xs : List Rj) (j : Nat) (x : Rj), xs[j]? = some x → (infc (xs.map Rj.inf))[j * 3]? = some (.string x.name) ∧ (infc (xs.map Rj.inf))[j * 3 + 1]? = some (.int .i64 x.data.size) ∧ (infc (xs.map Rj.inf))[j * 3 + 2]? = some (.int .i64 x.tm)
  | [], j, x, h => by simp at h
  | y :: xs, 0, x, h => by
    simp only [List.getElem?_cons_zero, Option.some.injEq] at h
    subst h
    exact ⟨rfl, rfl, rfl⟩
  | y :: xs, j + 1, x, h => by
    simp only [List.getElem?_cons_succ] at h
    obtain ⟨h1, h2, h3⟩ := infc_at xs j x h
    have e : infc ((y :: xs).map Rj.inf) = encInf y.inf ++ infc (xs.map Rj.inf) := rfl
    have hl : (encInf y.inf).length = 3 := rfl
    rw [e]
    refine ⟨?_, ?_, ?_⟩
    · rw [List.getElem?_append_right (by omega), hl, show (j + 1) * 3 - 3 = j * 3 by omega]; exact h1
    · rw [List.getElem?_append_right (by omega), hl, show (j + 1) * 3 + 1 - 3 = j * 3 + 1 by omega]; exact h2
    · rw [List.getElem?_append_right (by omega), hl, show (j + 1) * 3 + 2 - 3 = j * 3 + 2 by omega]; exact h3

set_option maxHeartbeats 2000000 in
set_option maxRecDepth 100000 in
theorem lists_true (b1 b2 : Nat) (v u : Value) (ys : List Rj) (w : World) (hv : Sl w b1 3 v ys.length (infc (ys.map Rj.inf))) (hu : Sl w b2 3 u ys.length (rjc ys)) (hlen : ys.length ≤ 1000) :
    Calls Try.prog 14 #[v, u] w fun e w' => e = .returned (.bool true) ∧ Below w.heap.size w w' := by
  obtain ⟨m, hm⟩ : ∃ m, m = ys.length := ⟨_, rfl⟩
  rw [← hm] at hv hu hlen
  obtain ⟨va, vc, rfl⟩ := hv.slice
  obtain ⟨ua, uc, rfl⟩ := hu.slice
  have HV := Lib.hid hv; have HU := Lib.hid hu; have HM := Lib.hid hm
  clear hv hu hm
  go_enter Try.func14, Try.ntmps14
  go_wp2_with fail
  go_loopw [5, 14] (fun v5 vj wr => ∃ j : Nat, vj = .int .i64 j ∧ j ≤ m ∧ Below w.heap.size w wr) (fun _ vj _ => m - (RowKit.intOf vj).toNat)
  case atStart => exact ⟨0, rfl, by omega, Below.refl _ _⟩
  case round =>
    obtain ⟨j, rfl, hj, hb⟩ := hrel
    by_cases hjm : j < m
    · obtain ⟨y, hy⟩ : ∃ y, ys[j]? = some y := ⟨ys[j]'(by have := HM.out; omega), List.getElem?_eq_getElem (by have := HM.out; omega)⟩
      obtain ⟨i0, i1, i2⟩ := infc_at ys j y hy
      obtain ⟨r0, r1, r2⟩ := rjc_at ys j y hy
      have hV := HV.out.on hb
      have hU := HU.out.on hb
      obtain ⟨gv, ov, cv, ea, _, _, _⟩ := hV.somewhere (by omega)
      cases ea
      obtain ⟨gu, ou, cu, eb, _, _, _⟩ := hU.somewhere (by omega)
      cases eb
      have p0 := hV.cells (j * 3) _ i0
      have p1 := hV.cells (j * 3 + 1) _ i1
      have p2 := hV.cells (j * 3 + 2) _ i2
      have q0 := hU.cells (j * 3) _ r0
      have q1 := hU.cells (j * 3 + 1) _ r1
      have q2 := hU.cells (j * 3 + 2) _ r2
      rw [Addr.add_lit] at p0 p1 p2 q0 q1 q2
      rw [← Nat.add_assoc] at p1 p2 q1 q2
      have gvl := (hV.lt gv rfl).2
      obtain ⟨WW, hWW⟩ : ∃ WW, WW = wr.alloc (.cells #[.string y.name, .string y.data, .int .i64 y.tm] 64) := ⟨_, rfl⟩
      have hh := heap_alloc_new wr (.cells #[.string y.name, .string y.data, .int .i64 y.tm] 64)
      rw [← hWW] at hh
      have e0 : WW.cell? ⟨wr.heap.size, 0, none⟩ = some (.string y.name) := (cell_of_row _ _ 0 _ _ _ hh).trans rfl
      have e1 : WW.cell? ⟨wr.heap.size, 1, none⟩ = some (.string y.data) := (cell_of_row _ _ 1 _ _ _ hh).trans rfl
      have e2 : WW.cell? ⟨wr.heap.size, 2, none⟩ = some (.int .i64 y.tm) := (cell_of_row _ _ 2 _ _ _ hh).trans rfl
      have bW : Below wr.heap.size wr WW := by rw [hWW]; exact (Below.refl _ _).alloc (Nat.le_refl _) _
      have p0' := (bW.cell (p := ⟨gv, ov + j * 3, none⟩) gvl).trans p0
      have p1' := (bW.cell (p := ⟨gv, ov + j * 3 + 1, none⟩) gvl).trans p1
      have p2' := (bW.cell (p := ⟨gv, ov + j * 3 + 2, none⟩) gvl).trans p2
      have hjn : (j : Int) < m := by omega
      have k1 : (y.name.toList == y.name.toList) = true := beq_self_eq_true _
      have HW := Lib.hid hWW
      have B1 := Lib.hid (hb.trans (bW.mono hb.size))
      clear i0 i1 i2 r0 r1 r2 hV hU hh bW hWW hj gvl p0 p1 p2
      go_upto_region 6 with fail
      rw [← HW.out]
      have e0d : WW.drew.cell? ⟨wr.heap.size, 0, none⟩ = some (.string y.name) := e0
      have e1d : WW.drew.cell? ⟨wr.heap.size, 1, none⟩ = some (.string y.data) := e1
      have e2d : WW.drew.cell? ⟨wr.heap.size, 2, none⟩ = some (.int .i64 y.tm) := e2
      go_quiet (fail)
      go_wp2_with fail
      exact ⟨⟨j + 1, by go_num, by omega, below_draw B1.out _⟩, by simp [RowKit.intOf]; omega⟩
    · have hjn : ¬ (j : Int) < m := by omega
      go_wp2_with fail
      go_ret
      exact ⟨rfl, hb⟩
end Go.Proofs.Ytnjoojffefhgpaa

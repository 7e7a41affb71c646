/- Layer 4: Is: the disk has what the document's has. -/
import Derived.Test.YtnjoojffefhgpaaMJD
import Derived.Test.YtnjoojffefhgpaaMD13
namespace Go.Proofs.Ytnjoojffefhgpaa
open Go.Conc Go.RowKit Go.Lib
set_option linter.unusedVariables false

theorem list_D (base d f c m : Nat) (rm : Int) (fs : List Fl) (xs : List Rj) (A : List Ft) (ck : Nat) (w : World) (h : DiskAt base d f c m rm fs A ck w) (hr : RelD fs xs) (hlen : xs.length ≤ 900) :
    Calls Try.prog 32 #[.pointer (some ⟨d, 0, none⟩), .string ⟨#[]⟩] w fun e w' => ∃ v, e = .returned v ∧ Sl w' w.heap.size 1 v xs.length (xs.map fun x => .string x.name) ∧ Below w.heap.size w w' := by
  have hl := len_D hr
  refine (list_any base d f c m rm fs A ck ⟨#[]⟩ w h (by omega)).mono ?_
  rintro e w' ⟨v, rfl, hs, b⟩
  have h1 : (namesF ⟨#[]⟩ fs).mergeSort leB = xs.map fun x => bl x.name := sorted_D hr
  have h2 : (namesF ⟨#[]⟩ fs).length = xs.length := by
    have := congrArg List.length h1
    rw [List.length_mergeSort, List.length_map] at this
    exact this
  rw [h1, h2, List.map_map] at hs
  exact ⟨v, rfl, hs, b⟩
theorem mem_D {fs : List Fl} {xs : List Rj} (h : RelD fs xs) (o : Rj) (ho : o ∈ xs) : ∃ x, lookF o.name fs = some x ∧ x.toR = o := by
  have hm : o ∈ (fs.map Fl.toO).map Ob.toR := h.2.mem_iff.2 ho
  rw [List.map_map] at hm
  obtain ⟨x, hx, e⟩ := List.mem_map.1 hm
  have e' : x.toR = o := e
  refine ⟨x, ?_, e'⟩
  rw [← e']
  exact look_of (by have := relB_names h; rw [List.map_map] at this; exact this) x hx

set_option maxHeartbeats 2000000 in
set_option maxRecDepth 100000 in
theorem dis_any (base d f c m ck : Nat) (rm : Int) (fs : List Fl) (v u : Value) (xs : List Rj) (A : List Ft) (w : World) (h : DiskAt base d f c m rm fs A ck w) (hr : RelD fs xs) (hs : Sl w 0 3 v xs.length (rjc xs)) (hu : ∃ a n c, u = .slice a n c) (hlen : xs.length ≤ 900) (hus : usedF fs ≤ 900000) (hrm : (usedF fs : Int) ≤ rm) :
    Calls Try.prog 8 #[.pointer (some ⟨d, 0, none⟩), rdv v rm u] w fun e w' => e = .returned (.int .i64 0) ∧ Below w.heap.size w w' := by
  have HLI := Lib.hid (fun W (b : Below w.heap.size w W) => list_D base d f c m rm fs xs A ck W (h.below b) hr hlen)
  obtain ⟨us, hus'⟩ : ∃ us, us = usedF fs := ⟨_, rfl⟩
  have HUS := Lib.hid (fun W (b : Below w.heap.size w W) => show Calls Try.prog 22 #[.pointer (some ⟨d, 0, none⟩)] W (fun e w' => e = .returned (.int .i64 us) ∧ W = w') from by rw [hus']; exact used_any base d f c m rm fs A ck W (h.below b))
  have HFR := Lib.hid (fun W (b : Below w.heap.size w W) => show Calls Try.prog 34 #[.pointer (some ⟨d, 0, none⟩)] W (fun e w' => e = .returned (.int .i64 (IntKind.i64.wrap (rm - us))) ∧ Below W.heap.size W w') from by
    rw [show IntKind.i64.wrap (rm - (us : Int)) = rm - us from IntWalk.i64_in _ (by have := h.room1; have := h.room0; omega)]
    rw [hus']
    refine (free_any base d f c m rm fs A ck W (h.below b)).mono ?_
    rintro e w' ⟨rfl, n, rfl⟩
    exact ⟨rfl, below_draw (Below.refl _ _) n⟩)
  have HRU := Lib.hid (fun W (b : Below w.heap.size w W) => show Calls Try.prog 33 #[rdv v rm u] W (fun e w' => e = .returned (.int .i64 us) ∧ Below W.heap.size W w') from by
    rw [hus', ← used_D hr]
    exact rused_any 0 v rm u xs W (hs.on b) (by omega) (by have := used_D hr; omega) hu)
  have HRD := Lib.hid (fun W (b : Below w.heap.size w W) (o : Rj) (ho : o ∈ xs) => show Calls Try.prog 9 #[.pointer (some ⟨d, 0, none⟩), .string o.name] W (fun e w' => e = .returned (.tuple #[.string o.data, .int .i64 0]) ∧ Below W.heap.size W w') from by
    obtain ⟨x, h1, h2⟩ := mem_D hr o ho
    have := read_go base d f c m rm fs A ck o.name W (h.below b) x h1
    rw [← h2]
    rw [← h2] at this
    exact this)
  have hr1 : rm ≤ 9223372036854775807 := h.room1
  have hr0 : 0 ≤ rm := h.room0
  have hsub : (us : Int) ≤ rm := by rw [hus']; exact hrm
  have hus9 : us ≤ 900000 := by rw [hus']; exact hus
  obtain ⟨va, vc, gl, ol, rfl, hlp, hcl⟩ := sl_open3 hs
  obtain ⟨n, hn⟩ : ∃ n, n = xs.length := ⟨_, rfl⟩
  rw [← hn] at hlp hcl hlen HLI HRU hs ⊢
  have HN := Lib.hid hn
  obtain ⟨ua, un, uc, rfl⟩ := hu
  unfold rdv
  unfold rdv at HRU
  have HS := Lib.hid hs
  clear hus' hn h hr hs hus hrm
  go_enter Try.func8, Try.ntmps8
  go_upto_region 1 with fail
  have hb := heap_alloc_new w (.cells #[.slice va n vc, .int .i64 rm, .slice ua un uc] 30)
  obtain ⟨V, hV⟩ : ∃ V, V = w.alloc (.cells #[.slice va n vc, .int .i64 rm, .slice ua un uc] 30) := ⟨_, rfl⟩
  have bV : Below w.heap.size w V := by rw [hV]; exact (Below.refl _ _).alloc (Nat.le_refl _) _
  rw [← hV] at hb ⊢
  have zV : V.heap.size = w.heap.size + 1 := by rw [hV]; simp
  have ZV := Lib.hid zV
  have BV := Lib.hid bV
  clear hV zV bV
  go_wp2_with fail
  refine (HLI.out V BV.out).mono ?_
  rintro e w1 ⟨l, rfl, hsl, b1⟩
  have bV := BV.out
  have zV := ZV.out
  have bW : Below w.heap.size w w1 := bV.trans (b1.mono (by omega))
  have hb1 := (b1.block w.heap.size (by omega)).trans hb
  have x0 : w1.cell? ⟨w.heap.size, 0, none⟩ = some (.slice va n vc) := (cell_of_row _ _ 0 _ _ _ hb1).trans rfl
  have x1 : w1.cell? ⟨w.heap.size, 1, none⟩ = some (.int .i64 rm) := (cell_of_row _ _ 1 _ _ _ hb1).trans rfl
  have x2 : w1.cell? ⟨w.heap.size, 2, none⟩ = some (.slice ua un uc) := (cell_of_row _ _ 2 _ _ _ hb1).trans rfl
  obtain ⟨la, lc, lg, lo, rfl, hll, hlc⟩ := sl_open hsl
  have hz1 : w.heap.size < w1.heap.size := by have := b1.size; omega
  have KP := Lib.hid (fun W (b : Below w1.heap.size w1 W) => show W.cell? ⟨w.heap.size, 0, none⟩ = some (.slice va n vc) ∧ W.cell? ⟨w.heap.size, 1, none⟩ = some (.int .i64 rm) ∧ W.cell? ⟨w.heap.size, 2, none⟩ = some (.slice ua un uc) from
    ⟨(b.cell (p := ⟨w.heap.size, 0, none⟩) hz1).trans x0, (b.cell (p := ⟨w.heap.size, 1, none⟩) hz1).trans x1, (b.cell (p := ⟨w.heap.size, 2, none⟩) hz1).trans x2⟩)
  have BW := Lib.hid bW
  have BW1 := Lib.hid (fun W (b : Below w1.heap.size w1 W) => bW.trans (b.mono bW.size))
  have hwr : IntKind.i64.wrap (rm - (us : Int)) = rm - us := IntWalk.i64_in _ (by omega)
  have HWR := Lib.hid hwr
  have hlt : ¬ IntKind.i64.wrap (rm - (us : Int)) < 0 := by rw [hwr]; omega
  have HLT := Lib.hid hlt
  clear hwr hsl b1 hb1 hb bV zV bW hlt
  have b0 : Below w1.heap.size w1 w1 := Below.refl _ _
  go_upto_region 2 with fail
  have hlt := HLT.out
  go_region_held3 (fun W => W.cell? ⟨w.heap.size, 0, none⟩ = some (.slice va n vc) ∧ W.cell? ⟨w.heap.size, 1, none⟩ = some (.int .i64 rm) ∧ W.cell? ⟨w.heap.size, 2, none⟩ = some (.slice ua un uc)) (first | exact ⟨x0, x1, x2⟩ | assumption)
    (first
      | (go_at_call 22; (with_reducible refine (HUS.out _ (BW1.out _ b0.drew)).mono ?_); rintro e w2 ⟨rfl, rfl⟩)
      | (go_at_call 33; (with_reducible refine (HRU.out _ (BW1.out _ (b4s.drew))).mono ?_); rintro e w5 ⟨rfl, b5⟩; have b5s : Below w1.heap.size w1 w5 := b4s.trans (((Below.refl _ w4).drew.trans b5).mono b4s.size); have d5 := KP.out w5 b5s)
      | (go_at_call 33; (with_reducible refine (HRU.out _ (BW1.out _ b4s)).mono ?_); rintro e w5 ⟨rfl, b5⟩; have b5s : Below w1.heap.size w1 w5 := b4s.trans (b5.mono b4s.size); have d5 := KP.out w5 b5s)
      | (go_at_call 33; (with_reducible refine (HRU.out _ (BW1.out _ b0.drew)).mono ?_); rintro e w3 ⟨rfl, b3⟩; have b3s : Below w1.heap.size w1 w3 := b0.drew.trans b3; have d3 := KP.out w3 b3s)
      | (go_at_call 34; (with_reducible refine (HFR.out _ (BW1.out _ b5s)).mono ?_); rintro e w6 ⟨rfl, b6⟩; have b6s : Below w1.heap.size w1 w6 := b5s.trans (b6.mono b5s.size); have d6 := KP.out w6 b6s)
      | (go_at_call 34; (with_reducible refine (HFR.out _ (BW1.out _ b3s)).mono ?_); rintro e w4 ⟨rfl, b4⟩; have b4s : Below w1.heap.size w1 w4 := b3s.trans (b4.mono b3s.size); have d4 := KP.out w4 b4s)
      | fail)
  obtain ⟨y0, y1, y2⟩ := d6
  have hz6 : w1.heap.size ≤ w6.heap.size := b6s.size
  have BW6 := Lib.hid (fun W (b : Below w6.heap.size w6 W) => b6s.trans (b.mono b6s.size))
  clear b0 b3 b3s d3 b4 b4s d4 b5 b5s d5 b6 x0 x1 x2 KP HFR HRU HUS
  go_wp2_with fail
  clear hlt
  go_loopw [43] (fun vj wr => ∃ j : Nat, vj = .int .i64 j ∧ j ≤ n ∧ Below w6.heap.size w6 wr) (fun vj _ => n - (RowKit.intOf vj).toNat)
  case atStart => exact ⟨0, rfl, by omega, Below.refl _ _⟩
  case round =>
    obtain ⟨j, rfl, hj, b7⟩ := hrel
    by_cases hjn : j < n
    · obtain ⟨rfl, hlg, hgl⟩ := hlp (by omega)
      obtain ⟨rfl, hkg, hkl⟩ := hll (by omega)
      obtain ⟨o, ho⟩ : ∃ o, xs[j]? = some o := ⟨xs[j]'(by have := HN.out; omega), List.getElem?_eq_getElem (by have := HN.out; omega)⟩
      have ho' := List.mem_of_getElem? ho
      obtain ⟨v0, v1, v2⟩ := rjc_at xs j o ho
      have b17 := BW6.out wr b7
      have bw := BW1.out wr b17
      have q0 := ((bw.cell (p := ⟨gl, ol + j * 3, none⟩) hgl).trans (hcl (j * 3) (by omega))).trans v0
      have q1 := ((bw.cell (p := ⟨gl, ol + (j * 3 + 1), none⟩) hgl).trans (hcl (j * 3 + 1) (by omega))).trans v1
      have q2 := ((bw.cell (p := ⟨gl, ol + (j * 3 + 2), none⟩) hgl).trans (hcl (j * 3 + 2) (by omega))).trans v2
      rw [← Nat.add_assoc] at q1 q2
      have p0 : wr.cell? ⟨lg, lo + j, none⟩ = some (.string o.name) := ((b17.cell (p := ⟨lg, lo + j, none⟩) hkl).trans (hlc j hjn)).trans (by rw [List.getElem?_map, ho]; rfl)
      have hjn' : (j : Int) < n := by omega
      have hwz := b7.size
      have hlw : lg < wr.heap.size := by have := b17.size; omega
      have hh := heap_alloc_new wr (.cells #[.string o.name, .string o.data, .int .i64 o.tm] 85)
      obtain ⟨WW, hWW⟩ : ∃ WW, WW = wr.alloc (.cells #[.string o.name, .string o.data, .int .i64 o.tm] 85) := ⟨_, rfl⟩
      rw [← hWW] at hh
      have bWW : Below wr.heap.size wr WW := by rw [hWW]; exact (Below.refl _ _).alloc (Nat.le_refl _) _
      have zW : wr.heap.size < WW.heap.size := by rw [hWW]; simp
      have RDo := Lib.hid (HRD.out WW (BW1.out WW (BW6.out WW (b7.trans (bWW.mono b7.size)))) o ho')
      have HWW := Lib.hid hWW
      have E := Lib.hid (fun W (b : Below WW.heap.size WW W) => show W.cell? ⟨wr.heap.size, 0, none⟩ = some (.string o.name) ∧ W.cell? ⟨wr.heap.size, 1, none⟩ = some (.string o.data) ∧ W.cell? ⟨lg, lo + j, none⟩ = some (.string o.name) from
        ⟨(b.cell (p := ⟨wr.heap.size, 0, none⟩) zW).trans ((cell_of_row _ _ 0 _ _ _ hh).trans rfl), (b.cell (p := ⟨wr.heap.size, 1, none⟩) zW).trans ((cell_of_row _ _ 1 _ _ _ hh).trans rfl), (b.cell (p := ⟨lg, lo + j, none⟩) (Nat.lt_trans hlw zW)).trans ((bWW.cell (p := ⟨lg, lo + j, none⟩) hlw).trans p0)⟩)
      have k1 : (o.name.toList == o.name.toList) = true := beq_self_eq_true _
      have k2 : (o.data.toList == o.data.toList) = true := beq_self_eq_true _
      have B7 := Lib.hid b7
      have BWW := Lib.hid bWW
      clear hlp hll hcl hlc v0 v1 v2 bw b17 p0 hh hWW bWW ho ho' b7 y0 y1 y2
      obtain ⟨e0, e1, e2⟩ := E.out WW (Below.refl _ _)
      go_upto_region 7 with fail
      rw [← HWW.out]
      go_wp2_with fail
      refine RDo.out.mono ?_
      rintro e w7 ⟨rfl, b8⟩
      obtain ⟨f0, f1, f2⟩ := E.out w7 b8
      clear e0 e1 e2 q0 q1 q2 zW
      go_wp2_with fail
      go_quiet (fail)
      go_wp2_with fail
      refine ⟨⟨j + 1, by go_num, by omega, ?_⟩, by simp [RowKit.intOf]; omega⟩
      have b9 : Below wr.heap.size wr w7 := BWW.out.trans (b8.mono BWW.out.size)
      exact below_draw (B7.out.trans (b9.mono B7.out.size)) _
    · have hjn' : ¬ (j : Int) < n := by omega
      clear hlp hll hcl hlc y0 y1 y2
      go_wp2_with fail
      go_ret
      exact ⟨rfl, BW1.out wr (BW6.out wr b7)⟩
end Go.Proofs.Ytnjoojffefhgpaa

/- Layer 13: may a matcher be? -/
import Derived.Test.YtobdlfikomnmcaaGreatDoorMTM3
import Derived.Test.YtobdlfikomnmcaaGreatDoorMRd
namespace Go.Proofs.YtobdlfikomnmcaaGreatDoor
open Go.RowKit Go.Lib
set_option linter.unusedVariables false

def sg6 : List UInt8 := [61, 33, 94, 64, 44, 124]
def isT (s : List UInt8) : Bool := decide (s.length ≤ 40) && !Lib.containsAny s sg6
def goodC (k n : Nat) : Bool := if k = 1 ∨ k = 2 ∨ k = 3 then decide (n = 1) else if k = 4 then decide (1 ≤ n ∧ n ≤ 10) else false
def okV (k : Nat) (v : List UInt8) : Bool := isT v && !(k == 3 && v == [])
def mOk (m : Mr) : Bool := goodC m.k m.vs.length && !(m.n == []) && isT m.n && m.vs.all (okV m.k)

set_option maxHeartbeats 1000000 in
theorem istext_any (s : List UInt8) (w : World) (hs : s.length < 1000000) :
    Calls Tryz.prog 22 #[.string (bs s)] w fun e w' => e = .returned (.bool (isT s)) ∧ Below w.heap.size w w' := by
  have HA := Lib.hid (fun W => hasany_all s sg6 W hs (by decide) (by decide) (Asc.of_all (by decide)))
  obtain ⟨b, hb⟩ : ∃ b, Lib.containsAny s sg6 = b := ⟨_, rfl⟩
  have hz : (bs s).size = s.length := bs_size s
  by_cases h : s.length ≤ 40
  · have ht : isT s = !b := by unfold isT; rw [hb, decide_eq_true h]; rfl
    have h' : ((bs s).size : Int) ≤ 40 := by rw [hz]; omega
    rw [ht]
    rw [hb] at HA
    clear ht hb
    go_enter Tryz.func22, Tryz.ntmps22
    go_wp2_with fail
    refine (HA.out _).mono ?_
    rintro e w1 ⟨rfl, b1⟩
    cases b
    all_goals
      go_wp2
      go_ret
      exact ⟨rfl, b1⟩
  · have ht : isT s = false := by unfold isT; rw [decide_eq_false h]; rfl
    have h' : ¬ ((bs s).size : Int) ≤ 40 := by rw [hz]; omega
    rw [ht]
    clear ht hb HA
    go_enter Tryz.func22, Tryz.ntmps22
    go_wp2
    go_ret
    exact ⟨rfl, Below.refl _ _⟩
set_option maxHeartbeats 1000000 in
theorem goodcount_any (k n : Nat) (nm : Value) (a : Option Addr) (c : Nat) (w : World) (hk : k ≤ 4) (hn : n ≤ 1000000) :
    Calls Tryz.prog 21 #[.agg #[.int .i64 k, nm, .slice a n c]] w fun e w' => e = .returned (.bool (goodC k n)) ∧ Below w.heap.size w w' := by
  obtain ⟨b, hb⟩ : ∃ b, goodC k n = b := ⟨_, rfl⟩
  have hc : k = 0 ∨ k = 1 ∨ k = 2 ∨ k = 3 ∨ k = 4 := by omega
  rcases hc with rfl | rfl | rfl | rfl | rfl
  · obtain rfl : b = false := by rw [← hb]; rfl
    rw [hb]
    go_enter Tryz.func21, Tryz.ntmps21
    go_wp2
    go_ret
    exact ⟨rfl, (Below.refl _ _).alloc (Nat.le_refl _) _⟩
  iterate 3
    · have e1 : ((n : Int) == 1) = goodC 1 n := by unfold goodC; rw [if_pos (by omega)]; by_cases h : n = 1 <;> simp [h]; omega
      have e2 : goodC 2 n = goodC 1 n := rfl
      have e3 : goodC 3 n = goodC 1 n := rfl
      try rw [e2] at hb ⊢
      try rw [e3] at hb ⊢
      rw [hb]
      rw [hb] at e1
      clear hb e2 e3
      go_enter Tryz.func21, Tryz.ntmps21
      go_wp2
      go_ret
      exact ⟨rfl, (Below.refl _ _).alloc (Nat.le_refl _) _⟩
  · by_cases h1 : 1 ≤ n
    · have h1' : (1 : Int) ≤ n := by omega
      have e1 : decide ((n : Int) ≤ 10) = goodC 4 n := by unfold goodC; rw [if_neg (by omega), if_pos rfl, Bool.eq_iff_iff]; simp only [decide_eq_true_eq]; omega
      rw [hb]
      rw [hb] at e1
      clear hb
      go_enter Tryz.func21, Tryz.ntmps21
      go_wp2
      go_ret
      exact ⟨rfl, (Below.refl _ _).alloc (Nat.le_refl _) _⟩
    · have h1' : ¬ (1 : Int) ≤ n := by omega
      have e1 : goodC 4 n = false := by unfold goodC; rw [if_neg (by omega), if_pos rfl]; simp; omega
      rw [e1]
      clear hb e1
      go_enter Tryz.func21, Tryz.ntmps21
      go_wp2
      go_ret
      exact ⟨rfl, (Below.refl _ _).alloc (Nat.le_refl _) _⟩

set_option maxHeartbeats 2000000 in
set_option maxRecDepth 100000 in
theorem check13_any (m : Mr) (v : Value) (w : World) (hr : Rd w 1 v m.vs.length (txs m.vs)) (hk : m.k ≤ 4) (hl : m.vs.length ≤ 200000) (hn : m.n.length < 1000000) (hv : ∀ x ∈ m.vs, x.length < 1000000) :
    Calls Tryz.prog 10 #[mrV m v] w fun e w' => e = .returned (.int .i64 (if mOk m then 0 else 1)) ∧ Below w.heap.size w w' := by
  obtain ⟨k, n, vs⟩ := m
  simp only at hr hk hl hn hv
  obtain ⟨_, a, cap, g, off, rfl, hg, hcell⟩ := hr
  have GC := Lib.hid (fun W => goodcount_any k vs.length (.string (bs n)) a cap W hk (by omega))
  have IT := Lib.hid (fun W => istext_any n W hn)
  have hT := bs_toList
  obtain ⟨er, her⟩ : ∃ er : Int, er = if mOk ⟨k, n, vs⟩ then 0 else 1 := ⟨_, rfl⟩
  rw [← her]
  unfold mOk at her
  simp only at her
  have bz := (Below.refl w.heap.size w).alloc (Nat.le_refl _) (.cells #[.int .i64 k, .string (bs n), .slice a vs.length cap] 24)
  have HBZ := Lib.hid bz
  obtain ⟨gc, hgc⟩ : ∃ gc, goodC k vs.length = gc := ⟨_, rfl⟩
  rw [hgc] at her GC
  cases gc with
  | false =>
    simp at her
    subst her
    clear hcell hgc bz
    unfold mrV
    go_enter Tryz.func10, Tryz.ntmps10
    go_wp2_with fail
    refine (GC.out _).mono ?_
    rintro e w1 ⟨rfl, b1⟩
    go_wp2_with fail
    go_ret
    exact ⟨rfl, HBZ.out.trans (b1.mono HBZ.out.size)⟩
  | true =>
    obtain ⟨hne, hnb⟩ : ∃ hne : Bool, (n == []) = hne := ⟨_, rfl⟩
    rw [hnb] at her
    unfold mrV
    go_enter Tryz.func10, Tryz.ntmps10
    go_wp2_with fail
    refine (GC.out _).mono ?_
    rintro e w1 ⟨rfl, b1⟩
    have B1 := HBZ.out.trans (b1.mono HBZ.out.size)
    have hb := (b1.block w.heap.size (by simp)).trans (heap_alloc_new w _)
    have r0 := Lib.cell_of_heap hb 0; have r1 := Lib.cell_of_heap hb 1; have r2 := Lib.cell_of_heap hb 2
    simp at r0 r1 r2
    have HB1 := Lib.hid B1; have Hb := Lib.hid hb
    clear b1 B1 hb HBZ bz GC
    cases hne with
    | true =>
      simp at her
      subst her
      clear hcell hgc
      go_wp2_with fail
      go_ret
      exact ⟨rfl, HB1.out⟩
    | false =>
      obtain ⟨it, hit⟩ : ∃ it, isT n = it := ⟨_, rfl⟩
      rw [hit] at her IT
      cases it with
      | false =>
        simp at her
        subst her
        clear hcell hgc
        go_wp2_with fail
        refine (IT.out _).mono ?_
        rintro e w2 ⟨rfl, b2⟩
        go_wp2_with fail
        go_ret
        exact ⟨rfl, HB1.out.trans (b2.mono HB1.out.size)⟩
      | true =>
        have HC := Lib.hid hcell
        clear hcell hgc
        go_wp2_with fail
        refine (IT.out _).mono ?_
        rintro e w2 ⟨rfl, b2⟩
        have B2 := Lib.hid (HB1.out.trans (b2.mono HB1.out.size))
        have hlt : w.heap.size < w1.heap.size := (Array.getElem?_eq_some_iff.1 Hb.out).1
        have hb := (b2.block w.heap.size hlt).trans Hb.out
        have r0 := Lib.cell_of_heap hb 0; have r1 := Lib.cell_of_heap hb 1; have r2 := Lib.cell_of_heap hb 2
        simp at r0 r1 r2
        clear hb hlt Hb HB1 b2 IT hit hnb
        go_wp2_with fail
        simp only [Bool.true_and, Bool.not_false] at her
        obtain ⟨hB2, hz2⟩ : Below w.heap.size w w2 ∧ w.heap.size < w2.heap.size := ⟨B2.out, by
          have : (w2.cell? ⟨w.heap.size, 0, none⟩).isSome := by rw [r0]; rfl
          exact World.block_lt_of_cell? _ ⟨w.heap.size, 0, none⟩ r0⟩
        have G0 := Lib.hid (show Below w2.heap.size w2 w2 ∧ er = if (vs.drop 0).all (okV k) then 0 else 1 from ⟨Below.refl _ _, her⟩)
        have R0 := Lib.hid (show w2.cell? ⟨w.heap.size, 0, none⟩ = some (.int .i64 k) from r0)
        clear her r0 r1 r2
        go_loopw [22] (fun i' wr => ∃ i : Nat, i' = .int .i64 i ∧ i ≤ vs.length ∧ Hid (Below w2.heap.size w2 wr ∧ er = if (vs.drop i).all (okV k) then 0 else 1)) (fun i' _ => vs.length - (RowKit.intOf i').toNat)
        case atStart => exact ⟨0, rfl, Nat.zero_le _, G0⟩
        case round =>
          clear G0
          obtain ⟨W0, rfl⟩ : ∃ W0, W0 = wr := ⟨_, rfl⟩
          obtain ⟨i, rfl, hi, hgg⟩ := hrel
          obtain ⟨bb, her⟩ := hgg.out
          have q0 := (bb.cell (p := ⟨w.heap.size, 0, none⟩) hz2).trans R0.out
          by_cases hil : i < vs.length
          · have hili : (i : Int) < vs.length := by omega
            obtain ⟨rfl, hgw⟩ := hg (by omega)
            have hx : vs[i]? = some vs[i] := List.getElem?_eq_getElem hil
            have hxm : vs[i] ∈ vs := List.getElem_mem hil
            have hd : vs.drop i = vs[i] :: vs.drop (i + 1) := List.drop_eq_getElem_cons hil
            have cx : W0.cell? ⟨g, off + i, none⟩ = some (.string (bs vs[i])) := by
              rw [(hB2.trans (bb.mono hB2.size)).cell (p := ⟨g, off + i, none⟩) hgw, HC.out i (by omega)]
              unfold txs
              rw [List.getElem?_map, hx]; rfl
            obtain ⟨x, hxx⟩ : ∃ x, vs[i] = x := ⟨_, rfl⟩
            rw [hxx] at cx hxm hd
            rw [hd, List.all_cons] at her
            have ITx := Lib.hid (fun W => istext_any x W (hv x hxm))
            obtain ⟨bt, hbt⟩ : ∃ bt, isT x = bt := ⟨_, rfl⟩
            rw [hbt] at ITx
            have HBB := Lib.hid bb
            have HB2 := Lib.hid hB2
            have ok1 : okV k x = (bt && !(k == 3 && x == [])) := by unfold okV; rw [hbt]
            rw [ok1] at her
            clear hgg bb hx hxm hd hxx hbt ok1 hB2
            cases bt with
            | false =>
              simp at her
              subst her
              go_wp2_with fail
              refine (ITx.out _).mono ?_
              rintro e w3 ⟨rfl, b3⟩
              go_wp2_with fail
              go_ret
              exact ⟨rfl, HB2.out.trans ((HBB.out.trans (b3.mono HBB.out.size)).mono HB2.out.size)⟩
            | true =>
              have hzw := HBB.out.size
              go_wp2_with fail
              refine (ITx.out _).mono ?_
              rintro e w3 ⟨rfl, b3⟩
              have q3 := (b3.cell (p := ⟨w.heap.size, 0, none⟩) (by show w.heap.size < _; omega)).trans q0
              have HB3 := Lib.hid (HBB.out.trans (b3.mono HBB.out.size))
              clear b3 q0 cx ITx HBB
              by_cases hk3 : k = 3
              · have hk3' : ((k : Int) == 3) = true := by rw [beq_iff_eq]; omega
                have hk3n : (k == 3) = true := by rw [beq_iff_eq]; omega
                rw [hk3n] at her
                clear hk3n
                obtain ⟨xe, hxe⟩ : ∃ xe : Bool, (x == []) = xe := ⟨_, rfl⟩
                rw [hxe] at her
                cases xe with
                | true =>
                  simp at her
                  subst her
                  go_wp2_with fail
                  go_ret
                  exact ⟨rfl, HB2.out.trans (HB3.out.mono HB2.out.size)⟩
                | false =>
                  simp at her
                  have HE := Lib.hid her
                  clear her
                  go_wp2_with fail
                  rw [show (3 : Int) = (k : Int) from by omega]
                  refine ⟨⟨_, _, _, _, _, _, _, _, _, _, _, _, _, _, _, _, _, _, _, ⟨i + 1, rfl, by omega, Lib.hid ⟨HB3.out, by rw [HE.out]; simp⟩⟩, rfl⟩, by simp [RowKit.intOf]; omega⟩
              · have hk3' : ((k : Int) == 3) = false := by rw [beq_eq_false_iff_ne]; omega
                have hk3n : (k == 3) = false := by rw [beq_eq_false_iff_ne]; omega
                rw [hk3n] at her
                simp at her
                have HE := Lib.hid her
                clear her hk3n
                go_wp2_with fail
                exact ⟨⟨i + 1, by simp, by omega, Lib.hid ⟨HB3.out, by rw [HE.out]; simp⟩⟩, by simp [RowKit.intOf]; omega⟩
          · have hili : ¬ (i : Int) < vs.length := by omega
            obtain rfl : i = vs.length := by omega
            rw [List.drop_length] at her
            simp at her
            subst her
            have HB0 := Lib.hid (hB2.trans (bb.mono hB2.size))
            clear hgg bb
            go_wp2_with fail
            go_ret
            exact ⟨rfl, HB0.out⟩
end Go.Proofs.YtobdlfikomnmcaaGreatDoor

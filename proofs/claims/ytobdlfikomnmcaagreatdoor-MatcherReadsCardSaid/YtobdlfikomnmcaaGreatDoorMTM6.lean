/- Layer 13: does a value fit? -/
import Derived.Test.YtobdlfikomnmcaaGreatDoorMTM5
namespace Go.Proofs.YtobdlfikomnmcaaGreatDoor
open Go.RowKit Go.Lib
set_option linter.unusedVariables false

theorem txs_at (l : List (List UInt8)) (i : Nat) (x : List UInt8) (h : l[i]? = some x) : (txs l)[i]? = some (.string (bs x)) := by
  unfold txs
  rw [List.getElem?_map, h]; rfl
set_option maxHeartbeats 1000000 in
set_option maxRecDepth 100000 in
theorem sindex13_any (l : List (List UInt8)) (v : Value) (k : List UInt8) (w : World) (h : Rd w 1 v l.length (txs l)) (hl : l.length ≤ 1000000) :
    Calls Tryz.prog 55 #[v, .string (bs k)] w fun e w' => ∃ i : Int, e = .returned (.int .i64 i) ∧ (0 ≤ i ↔ k ∈ l) ∧ w = w' := by
  have hT := bs_toList
  obtain ⟨_, a, cap, g, off, rfl, hg, hc⟩ := h
  simp only [Nat.mul_one] at hg hc
  obtain ⟨n, hn⟩ : ∃ n, n = l.length := ⟨_, rfl⟩
  rw [← hn] at hg hc hl ⊢
  have HN := Lib.hid hn
  have HG := Lib.hid hg
  have HC := Lib.hid hc
  clear hn hg hc
  go_enter Tryz.func55, Tryz.ntmps55
  go_wp2_with fail
  go_loopw [8] (fun i' wr => ∃ i : Nat, i' = .int .i64 i ∧ i ≤ n ∧ Hid (∀ j x, j < i → l[j]? = some x → x ≠ k) ∧ wr = w) (fun i' _ => n - (intOf i').toNat)
  case atStart => exact ⟨0, rfl, by omega, Lib.hid (fun j x hj => absurd hj (Nat.not_lt_zero _)), rfl⟩
  case round =>
    obtain ⟨i, rfl, hi, hk, rfl⟩ := hrel
    by_cases hlt : i < n
    · obtain ⟨rfl, hgl⟩ := HG.out (by omega)
      obtain ⟨x, hx⟩ : ∃ x, l[i]? = some x := ⟨l[i]'(by have := HN.out; omega), List.getElem?_eq_getElem (by have := HN.out; omega)⟩
      have q0 := (HC.out i (by omega)).trans (txs_at l i x hx)
      have hil : (i : Int) < n := by omega
      by_cases hxk : x = k
      · have hq : (k == x) = true := beq_iff_eq.2 hxk.symm
        have HM := Lib.hid (show k ∈ l by rw [← hxk]; exact List.mem_of_getElem? hx)
        clear hk hx hxk
        go_wp2_with fail
        go_ret
        exact ⟨_, rfl, ⟨fun _ => HM.out, fun _ => by omega⟩, rfl⟩
      · have hq : (k == x) = false := beq_eq_false_iff_ne.2 fun e => hxk e.symm
        have HK := Lib.hid (show ∀ j y, j < i + 1 → l[j]? = some y → y ≠ k from fun j y hj hy => by
          by_cases hji : j < i
          · exact hk.out j y hji hy
          · have : j = i := by omega
            subst this
            rw [hx] at hy
            cases hy
            exact hxk)
        clear hk hx hxk
        go_wp2_with fail
        exact ⟨⟨i + 1, by go_num, by omega, HK, trivial⟩, by simp [intOf]; omega⟩
    · have hil : ¬ (i : Int) < n := by omega
      have HM := Lib.hid (show ¬ k ∈ l from fun hm => by
        obtain ⟨j, hj⟩ := List.mem_iff_getElem?.1 hm
        have h1 := (List.getElem?_eq_some_iff.1 hj).1
        exact hk.out j k (by have := HN.out; omega) hj rfl)
      clear hk
      go_wp2_with fail
      go_ret
      exact ⟨-1, rfl, ⟨fun h => absurd h (by decide), fun h => absurd h HM.out⟩, rfl⟩

set_option maxRecDepth 100000 in
theorem contains13_any (l : List (List UInt8)) (v : Value) (k : List UInt8) (w : World) (h : Rd w 1 v l.length (txs l)) (hl : l.length ≤ 1000000) :
    Calls Tryz.prog 33 #[v, .string (bs k)] w fun e w' => e = .returned (.bool (decide (k ∈ l))) ∧ w = w' := by
  have I := Lib.hid (sindex13_any l v k w h hl)
  go_enter Tryz.func33, Tryz.ntmps33
  go_wp2_with fail
  refine I.out.mono ?_
  rintro e w1 ⟨i, rfl, hi, rfl⟩
  go_wp2
  go_ret
  exact ⟨rfl, rfl⟩

def fitB (m : Mr) (x : List UInt8) : Bool :=
  if m.k = 1 ∨ m.k = 4 then decide (x ∈ m.vs) else if m.k = 2 then !decide (x ∈ m.vs) else if m.k = 3 then !(x == []) && m.vs.any (fun v => pre v x) else false

theorem fitsf_any (B : Nat) (v x : List UInt8) (w : World) (h : w.cell? ⟨B, 0, none⟩ = some (.string (bs x))) :
    Calls Tryz.prog 35 #[.string (bs v), .pointer (some ⟨B, 0, none⟩)] w fun e w' => e = .returned (.bool (pre v x)) ∧ w = w' := by
  have HA := Lib.hid (fun W => has_any (bs x) (bs v) W)
  rw [bs_list, bs_list] at HA
  go_enter Tryz.func35, Tryz.ntmps35
  go_wp2_with fail
  refine (HA.out _).mono ?_
  rintro e w1 ⟨rfl, rfl⟩
  go_wp2
  go_ret
  exact ⟨rfl, rfl⟩
set_option maxHeartbeats 1000000 in
set_option maxRecDepth 100000 in
theorem idxfunc13_any (B : Nat) (x : List UInt8) (l : List (List UInt8)) (v : Value) (w : World) (h : Rd w 1 v l.length (txs l)) (hl : l.length ≤ 1000000) (hB : w.cell? ⟨B, 0, none⟩ = some (.string (bs x))) :
    Calls Tryz.prog 56 #[v, .func (.func 35) #[] #[.pointer (some ⟨B, 0, none⟩)]] w fun e w' => ∃ i : Int, e = .returned (.int .i64 i) ∧ (decide (0 ≤ i) = l.any (fun v => pre v x)) ∧ w = w' := by
  obtain ⟨_, a, cap, g, off, rfl, hg, hc⟩ := h
  simp only [Nat.mul_one] at hg hc
  have FF := Lib.hid (fun v W hW => fitsf_any B v x W hW)
  have HB := Lib.hid hB
  obtain ⟨n, hn⟩ : ∃ n, n = l.length := ⟨_, rfl⟩
  rw [← hn] at hg hc hl ⊢
  have HN := Lib.hid hn
  have HG := Lib.hid hg
  have HC := Lib.hid hc
  clear hn hg hc hB
  go_enter Tryz.func56, Tryz.ntmps56
  go_wp2_with fail
  go_loopw [8] (fun i' wr => ∃ i : Nat, i' = .int .i64 i ∧ i ≤ n ∧ Hid (l.any (fun v => pre v x) = (l.drop i).any (fun v => pre v x)) ∧ wr = w) (fun i' _ => n - (intOf i').toNat)
  case atStart => exact ⟨0, rfl, by omega, Lib.hid rfl, rfl⟩
  case round =>
    obtain ⟨i, rfl, hi, hk, rfl⟩ := hrel
    by_cases hlt : i < n
    · obtain ⟨rfl, hgl⟩ := HG.out (by omega)
      have hll : i < l.length := by have := HN.out; omega
      have hd : l.drop i = l[i] :: l.drop (i + 1) := List.drop_eq_getElem_cons hll
      have hx0 : l[i]? = some l[i] := List.getElem?_eq_getElem hll
      obtain ⟨y, hy⟩ : ∃ y, l[i] = y := ⟨_, rfl⟩
      rw [hy] at hd hx0
      have q0 := (HC.out i (by omega)).trans (txs_at l i y hx0)
      have hk2 := hk.out
      rw [hd, List.any_cons] at hk2
      have FY := Lib.hid (FF.out y)
      have hil : (i : Int) < n := by omega
      cases hp : pre y x with
      | true =>
        rw [hp] at FY hk2
        have HK := Lib.hid hk2
        clear hk hk2 hd hx0 hy
        go_wp2_with fail
        refine (FY.out _ HB.out).mono ?_
        rintro e w1 ⟨rfl, rfl⟩
        go_wp2_with fail
        go_ret
        exact ⟨_, rfl, by rw [HK.out]; simp, rfl⟩
      | false =>
        rw [hp] at FY hk2
        rw [Bool.false_or] at hk2
        have HK := Lib.hid hk2
        clear hk hk2 hd hx0 hy
        go_wp2_with fail
        refine (FY.out _ HB.out).mono ?_
        rintro e w1 ⟨rfl, rfl⟩
        go_wp2_with fail
        exact ⟨⟨i + 1, by go_num, by omega, HK, trivial⟩, by simp [intOf]; omega⟩
    · have hil : ¬ (i : Int) < n := by omega
      have HK := Lib.hid (show l.any (fun v => pre v x) = false by
        rw [hk.out, show i = l.length by have := HN.out; omega, List.drop_length]; rfl)
      clear hk
      go_wp2_with fail
      go_ret
      exact ⟨-1, rfl, by rw [HK.out]; rfl, rfl⟩
set_option maxRecDepth 100000 in
theorem cfunc13_any (B : Nat) (x : List UInt8) (l : List (List UInt8)) (v : Value) (w : World) (h : Rd w 1 v l.length (txs l)) (hl : l.length ≤ 1000000) (hB : w.cell? ⟨B, 0, none⟩ = some (.string (bs x))) :
    Calls Tryz.prog 34 #[v, .func (.func 35) #[] #[.pointer (some ⟨B, 0, none⟩)]] w fun e w' => e = .returned (.bool (l.any (fun v => pre v x))) ∧ w = w' := by
  have I := Lib.hid (idxfunc13_any B x l v w h hl hB)
  obtain ⟨b, hb⟩ : ∃ b, l.any (fun v => pre v x) = b := ⟨_, rfl⟩
  rw [hb] at I ⊢
  clear hb
  go_enter Tryz.func34, Tryz.ntmps34
  go_wp2_with fail
  refine I.out.mono ?_
  rintro e w1 ⟨i, rfl, hi, rfl⟩
  have HI := Lib.hid hi
  clear hi
  go_wp2_with fail
  go_ret
  exact ⟨by rw [← HI.out]; rfl, rfl⟩

set_option maxHeartbeats 1000000 in
set_option maxRecDepth 100000 in
theorem fits13_any (m : Mr) (v : Value) (x : List UInt8) (w : World) (h : Rd w 1 v m.vs.length (txs m.vs)) (hl : m.vs.length ≤ 1000000) (hk : m.k ≤ 4) :
    Calls Tryz.prog 20 #[mrV m v, .string (bs x)] w fun e w' => e = .returned (.bool (fitB m x)) ∧ Below w.heap.size w w' := by
  have hT := bs_toList
  obtain ⟨k, n, vs⟩ := m
  simp only at h hl hk
  have CO := Lib.hid (fun W (hW : Rd W 1 v vs.length (txs vs)) => contains13_any vs v x W hW hl)
  have CF := Lib.hid (fun B W (hW : Rd W 1 v vs.length (txs vs)) hB => cfunc13_any B x vs v W hW hl hB)
  have H := Lib.hid h
  obtain ⟨-, a, cap, g, off, rfl, -⟩ := h
  unfold mrV
  simp only
  obtain ⟨V, hV⟩ : ∃ V, V = (w.alloc (.cells #[.int .i64 k, .string (bs n), .slice a vs.length cap] 24)).alloc (.cells #[.string (bs x)] 9) := ⟨_, rfl⟩
  have bV : Below w.heap.size w V := by rw [hV]; exact ((Below.refl _ _).alloc (Nat.le_refl _) _).alloc (by simp) _
  have BV := Lib.hid bV
  have RV := Lib.hid (H.out.on bV)
  have XV := Lib.hid (show V.cell? ⟨w.heap.size + 1, 0, none⟩ = some (.string (bs x)) by
    have := heap_alloc_new (w.alloc (.cells #[.int .i64 k, .string (bs n), .slice a vs.length cap] 24)) (.cells #[.string (bs x)] 9)
    rw [← hV] at this
    simp at this
    simp [World.cell?, this])
  have HV := Lib.hid hV
  clear hV bV H
  obtain ⟨b, hb⟩ : ∃ b, decide (x ∈ vs) = b := ⟨_, rfl⟩
  have hc : k = 0 ∨ k = 1 ∨ k = 2 ∨ k = 3 ∨ k = 4 := by omega
  rcases hc with rfl | rfl | rfl | rfl | rfl
  · have ef : fitB ⟨0, n, vs⟩ x = false := rfl
    rw [ef]
    have HV2 := HV.out
    clear hb CO CF HV
    go_enter Tryz.func20, Tryz.ntmps20
    go_wp2_with fail
    go_ret
    exact ⟨rfl, by first | exact BV.out | (have := BV.out; rw [HV2] at this; exact this)⟩
  · have ef : fitB ⟨1, n, vs⟩ x = b := by unfold fitB; rw [if_pos (by simp)]; exact hb
    rw [ef]
    have C0 := CO.out V RV.out
    rw [hb, HV.out] at C0
    have CC := Lib.hid C0
    have BB := BV.out
    rw [HV.out] at BB
    have BB2 := Lib.hid BB
    clear hb ef CO CF RV XV BV HV C0 BB
    go_enter Tryz.func20, Tryz.ntmps20
    go_wp2_with fail
    refine CC.out.mono ?_
    rintro e w1 ⟨rfl, rfl⟩
    go_wp2_with fail
    go_ret
    exact ⟨rfl, BB2.out⟩
  · have ef : fitB ⟨2, n, vs⟩ x = !b := by unfold fitB; rw [if_neg (by simp), if_pos rfl]; simp only; rw [hb]
    rw [ef]
    have C0 := CO.out V RV.out
    rw [hb, HV.out] at C0
    have CC := Lib.hid C0
    have BB := BV.out
    rw [HV.out] at BB
    have BB2 := Lib.hid BB
    clear hb ef CO CF RV XV BV HV C0 BB
    go_enter Tryz.func20, Tryz.ntmps20
    go_wp2_with fail
    refine CC.out.mono ?_
    rintro e w1 ⟨rfl, rfl⟩
    go_wp2_with fail
    go_ret
    exact ⟨rfl, BB2.out⟩
  · obtain ⟨c, hc⟩ : ∃ c, vs.any (fun v => pre v x) = c := ⟨_, rfl⟩
    obtain ⟨xe, hxe⟩ : ∃ xe : Bool, (x == []) = xe := ⟨_, rfl⟩
    have ef : fitB ⟨3, n, vs⟩ x = (!xe && c) := by rw [← hxe, ← hc]; rfl
    rw [ef]
    have C0 := CF.out (w.heap.size + 1) V RV.out XV.out
    rw [hc, HV.out] at C0
    have CC := Lib.hid C0
    have BB := BV.out
    rw [HV.out] at BB
    have BB2 := Lib.hid BB
    clear hb ef CO CF RV XV BV HV C0 BB hc
    cases xe
    all_goals
      go_enter Tryz.func20, Tryz.ntmps20
      go_wp2_with fail
      first
        | (refine CC.out.mono ?_
           rintro e w1 ⟨rfl, rfl⟩
           go_wp2_with fail)
        | skip
      go_ret
      exact ⟨by first | rfl | simp, BB2.out⟩
  · have ef : fitB ⟨4, n, vs⟩ x = b := by unfold fitB; rw [if_pos (by simp)]; exact hb
    rw [ef]
    have C0 := CO.out V RV.out
    rw [hb, HV.out] at C0
    have CC := Lib.hid C0
    have BB := BV.out
    rw [HV.out] at BB
    have BB2 := Lib.hid BB
    clear hb ef CO CF RV XV BV HV C0 BB
    go_enter Tryz.func20, Tryz.ntmps20
    go_wp2_with fail
    refine CC.out.mono ?_
    rintro e w1 ⟨rfl, rfl⟩
    go_wp2_with fail
    go_ret
    exact ⟨rfl, BB2.out⟩
end Go.Proofs.YtobdlfikomnmcaaGreatDoor

/- Layer 13: runes that are no plain byte: how a text is read, how one is written. -/
import Derived.Test.YtobdlfikomnmcaaGreatDoorMTM2
import Derived.Laws.RangeAny
import Derived.Lib.OthersKept
import Derived.WalkMore
import Derived.Deep.RegionHeld3
import Derived.Deep.Cut
namespace Go.Proofs.YtobdlfikomnmcaaGreatDoor
open Go.RowKit Go.Lib
set_option linter.unusedVariables false

theorem dec_far (s : ByteArray) (i : Nat) (hi : i < s.size) (hb : 128 ≤ (s.get! (i + 0)).toNat) :
    128 ≤ (Utf8.decode s i).1 ∧ (Utf8.decode s i).1 ≤ 1114111 ∧ 1 ≤ (Utf8.decode s i).2 ∧ ∀ k, k < (Utf8.decode s i).2 → i + k < s.size ∧ 128 ≤ (s.get! (i + k)).toNat := by
  have h0 : (s.get! (i + 0)).toNat < 256 := (s.get! (i + 0)).toNat_lt
  have c0 : ∀ k : Nat, k < 1 → i + k < s.size ∧ 128 ≤ (s.get! (i + k)).toNat := fun k hk => by
    obtain rfl : k = 0 := by omega
    exact ⟨hi, hb⟩
  have hne : ¬ (s.get! (i + 0)).toNat < 128 := by omega
  unfold Utf8.decode
  simp only [if_neg hne]
  split
  · rename_i h1
    simp only [Bool.and_eq_true, decide_eq_true_eq, beq_iff_eq] at h1
    split
    · rename_i h2
      refine ⟨h2, by simp only; omega, by simp only; omega, fun k hk => ?_⟩
      simp only at hk
      by_cases e : k = 0
      · subst e; exact ⟨hi, hb⟩
      · obtain rfl : k = 1 := by omega
        exact ⟨h1.2.1, by omega⟩
    · exact ⟨by decide, by decide, by decide, c0⟩
  · split
    · rename_i h1
      simp only [Bool.and_eq_true, decide_eq_true_eq, beq_iff_eq] at h1
      split
      · rename_i h2
        simp only [Bool.and_eq_true, decide_eq_true_eq] at h2
        refine ⟨by simp only; omega, by simp only; omega, by simp only; omega, fun k hk => ?_⟩
        simp only at hk
        by_cases e : k = 0
        · subst e; exact ⟨hi, hb⟩
        · by_cases e1 : k = 1
          · subst e1; exact ⟨h1.1.2.1, by omega⟩
          · obtain rfl : k = 2 := by omega
            exact ⟨h1.2.1, by omega⟩
      · exact ⟨by decide, by decide, by decide, c0⟩
    · split
      · rename_i h1
        simp only [Bool.and_eq_true, decide_eq_true_eq, beq_iff_eq] at h1
        split
        · rename_i h2
          simp only [Bool.and_eq_true, decide_eq_true_eq] at h2
          have hv := h2.2
          unfold Utf8.valid at hv
          simp only [Bool.or_eq_true, Bool.and_eq_true, decide_eq_true_eq] at hv
          refine ⟨by simp only; omega, by simp only; omega, by simp only; omega, fun k hk => ?_⟩
          simp only at hk
          by_cases e : k = 0
          · subst e; exact ⟨hi, hb⟩
          · by_cases e1 : k = 1
            · subst e1; exact ⟨h1.1.1.2.1, by omega⟩
            · by_cases e2 : k = 2
              · subst e2; exact ⟨h1.1.2.1, by omega⟩
              · obtain rfl : k = 3 := by omega
                exact ⟨h1.2.1, by omega⟩
        · exact ⟨by decide, by decide, by decide, c0⟩
      · exact ⟨by decide, by decide, by decide, c0⟩
theorem enc_far (r : Nat) (h1 : 128 ≤ r) (h2 : r ≤ 1114111) : ∃ (a : List UInt8) (x : UInt8), Utf8.encode (r : Int) = bs (a ++ [x]) ∧ 1 ≤ a.length ∧ a.length ≤ 3 ∧ 128 ≤ x.toNat := by
  unfold Utf8.encode
  by_cases hv : Utf8.valid (r : Int) = true
  · simp only [hv, if_true, Int.toNat_natCast]
    rw [if_neg (by omega)]
    split
    · exact ⟨[_], _, rfl, by simp, by simp, by rw [UInt8.toNat_ofNat']; omega⟩
    · split
      · exact ⟨[_, _], _, rfl, by simp, by simp, by rw [UInt8.toNat_ofNat']; omega⟩
      · exact ⟨[_, _, _], _, rfl, by simp, by simp, by rw [UInt8.toNat_ofNat']; omega⟩
  · have hv' : Utf8.valid (r : Int) = false := by simpa using hv
    simp only [hv', Bool.false_eq_true, if_false]
    rw [if_neg (by decide), if_neg (by decide), if_pos (by decide)]
    exact ⟨[_, _], _, rfl, by simp, by simp, by decide⟩

theorem idx_str (l : List UInt8) (i : Nat) (y : UInt8) (h : l[i]? = some y) (W : World) : (Instr.index 9 (.string (bs l)) (.int .i64 (i : Int))).run Tryz.prog W = .ok (.int .u8 y.toNat) W := by
  have hl := (List.getElem?_eq_some_iff.1 h).1
  have e := (List.getElem?_eq_some_iff.1 h).2
  have hs := bs_size l
  rw [run_index_string W 9 (bs l) .i64 i Tryz.underlying9, dif_pos (by omega)]
  have e2 : (bs l)[(i : Int).toNat]'(by omega) = y := by
    rw [← e]
    rfl
  rw [e2]
theorem sl_str (l : List UInt8) (i : Nat) (h : i ≤ l.length) (W : World) : (Instr.slice 9 (.string (bs l)) (some (.int .i64 (i : Int))) none none).run Tryz.prog W = .ok (.string (bs (l.drop i))) W := by
  have hu := run_underlying Tryz.underlying9
  have hs := bs_size l
  have hd := bs_drop l i
  rw [hs] at hd
  have h2 : (i : Int) ≤ l.length := by omega
  simp [Instr.slice, Instr.sliceBounds, go_sem, hu, hs, h2, hd]
def vr (r : Int) : Bool := (decide (0 ≤ r) && decide (r < 55296)) || (decide (57343 < r) && decide (r ≤ 1114111))
theorem vrune_any (r : Int) (w : World) : Calls Tryz.prog 63 #[.int .i32 r] w fun e w' => e = .returned (.bool (vr r)) ∧ w = w' := by
  by_cases h1 : 0 ≤ r
  · by_cases h2 : r < 55296
    · go_enter Tryz.func63, Tryz.ntmps63
      go_wp2_with fail
      go_ret
      exact ⟨by simp [vr, h1, h2], rfl⟩
    · by_cases h3 : 57343 < r
      · by_cases h4 : r ≤ 1114111
        · go_enter Tryz.func63, Tryz.ntmps63
          go_wp2_with fail
          go_ret
          exact ⟨by simp [vr, h1, h3, h4], rfl⟩
        · go_enter Tryz.func63, Tryz.ntmps63
          go_wp2_with fail
          go_ret
          exact ⟨by simp [vr, h1, h2, h3, h4], rfl⟩
      · go_enter Tryz.func63, Tryz.ntmps63
        go_wp2_with fail
        go_ret
        exact ⟨by simp [vr]; omega, rfl⟩
  · have h3 : ¬ 57343 < r := by omega
    go_enter Tryz.func63, Tryz.ntmps63
    go_wp2_with fail
    go_ret
    exact ⟨by simp [vr]; omega, rfl⟩
theorem sbyte_any (s : ByteArray) (c : UInt8) (w : World) : Calls Tryz.prog 62 #[.string s, .int .u8 c.toNat] w fun e w' => e = .returned (.int .i64 (Lib.indexByte s.data.toList c)) ∧ w = w' := by
  have H := Lib.hid (fun W => ibyte_any s c W)
  go_enter Tryz.func62, Tryz.ntmps62
  go_wp2_with fail
  refine (H.out _).mono ?_
  rintro e w1 ⟨rfl, rfl⟩
  go_wp2
  go_ret
  exact ⟨rfl, rfl⟩

set_option maxHeartbeats 400000 in
set_option maxRecDepth 100000 in
theorem irune_far (c : List UInt8) (hc : Asc c) (h4 : 4 ≤ c.length) (hl : c.length ≤ 100) (r : Nat) (h1 : 128 ≤ r) (h2 : r ≤ 1114111) (w : World) :
    Calls Tryz.prog 44 #[.string (bs c), .int .i32 r] w fun e w' => e = .returned (.int .i64 (-1)) ∧ Below w.heap.size w w' := by
  have hcs := bs_size c
  have h0 : (0 : Int) ≤ r := by omega
  have h128 : ¬ (r : Int) < 128 := by omega
  by_cases he : r = 65533
  · have heq : ((r : Int) == 65533) = true := by rw [beq_iff_eq]; omega
    have hk0 : (w.iter (bs c) 0).heap[w.heap.size]? = some (.stringIter (bs c) 0) := World.iter_heap w (bs c) 0
    have hb0 : Below w.heap.size w (w.iter (bs c) 0) := (Below.refl _ _).alloc (Nat.le_refl _) _
    go_enter Tryz.func44, Tryz.ntmps44
    go_wp2_with fail
    go_loopw [5, 6] (fun _ _ wr => ∃ pos : Nat, pos ≤ c.length ∧ wr.heap[w.heap.size]? = some (.stringIter (bs c) pos) ∧ Below w.heap.size w wr) (fun _ _ wr => c.length - wr.iterPos w.heap.size)
    case atStart => exact ⟨0, Nat.zero_le _, hk0, hb0⟩
    case round =>
      obtain ⟨W0, rfl⟩ : ∃ W0, W0 = wr := ⟨_, rfl⟩
      obtain ⟨pos, hps, hk, hnx⟩ := hrel
      clear hk0 hb0
      by_cases hp : pos < c.length
      · have hpz : pos < (bs c).size := by rw [hcs]; exact hp
        have hxa : ((bs c)[pos]'hpz).toNat < 128 := hc pos _ (List.getElem?_eq_getElem hp)
        have hnext : ∀ ty, (Instr.next (.pointer (some ⟨w.heap.size, 0, none⟩)) true ty).run Tryz.prog W0 = _ := fun ty => Lib.run_next_ascii_at W0 w.heap.size (bs c) pos ty hk hpz hxa
        have hk1 := Lib.iterAt_heap W0 w.heap.size (bs c) pos (pos + 1) hk
        have hnx1 : Below w.heap.size w (W0.iterAt w.heap.size (bs c) (pos + 1)) := Lib.below_iterAt hnx (Nat.le_refl _) (bs c) (pos + 1)
        have hmu : W0.iterPos w.heap.size = pos := by simp [World.iterPos, hk]
        generalize W0.iterAt w.heap.size (bs c) (pos + 1) = W1 at hnext hk1 hnx1
        obtain ⟨x, hx⟩ : ∃ x, (bs c)[pos]'hpz = x := ⟨_, rfl⟩
        rw [hx] at hnext hxa
        have hxq : ((x.toNat : Int) == 65533) = false := by rw [beq_eq_false_iff_ne]; omega
        have HMU := Lib.hid hmu
        have HK1 := Lib.hid hk1
        have HNX1 := Lib.hid hnx1
        have hmu1 : W1.iterPos w.heap.size = pos + 1 := by simp [World.iterPos, hk1]
        have HM1 := Lib.hid hmu1
        clear hx hmu hk1 hnx1 hk hnx hmu1
        go_wp2_with fail
        exact ⟨⟨pos + 1, by omega, HK1.out, HNX1.out⟩, by rw [HM1.out, HMU.out]; omega⟩
      · have hpz : ¬ pos < (bs c).size := by rw [hcs]; exact hp
        have hnext := fun ty => Lib.run_next_end_at (P := Tryz.prog) W0 w.heap.size (bs c) pos ty hk hpz
        have HB := Lib.hid hnx
        clear hk hnx
        go_wp2_with fail
        go_ret
        exact ⟨rfl, HB.out⟩
  · have heq : ((r : Int) == 65533) = false := by rw [beq_eq_false_iff_ne]; omega
    have VR := Lib.hid (fun W => vrune_any r W)
    cases hv : vr r with
    | false =>
      rw [hv] at VR
      clear hv
      go_enter Tryz.func44, Tryz.ntmps44
      go_wp2_with fail
      refine (VR.out _).mono ?_
      rintro e w1 ⟨rfl, rfl⟩
      go_wp2_with fail
      go_ret
      exact ⟨rfl, Below.refl _ _⟩
    | true =>
      rw [hv] at VR
      clear hv
      obtain ⟨a, x, hen, ha1, ha3, hx⟩ := enc_far r h1 h2
      go_enter Tryz.func44, Tryz.ntmps44
      go_wp2_with fail
      refine (VR.out _).mono ?_
      rintro e w1 ⟨rfl, rfl⟩
      go_wp2_with fail
      obtain ⟨k, hk⟩ : ∃ k, a.length = k := ⟨_, rfl⟩
      have hlen : (bs (a ++ [x])).size = a.length + 1 := by rw [bs_size]; simp
      have hSx : ∀ h : a.length < (bs (a ++ [x])).size, (bs (a ++ [x]))[a.length]'h = x := fun h => by
        exact (List.getElem?_eq_some_iff.1 (show (a ++ [x])[a.length]? = some x by simp)).2
      rw [hk] at ha1 ha3 hlen hSx
      obtain ⟨S, hS⟩ : ∃ S, S = bs (a ++ [x]) := ⟨_, rfl⟩
      rw [← hS] at hen hlen hSx
      clear hS hk
      have hkc : k < c.length := by omega
      obtain ⟨y, hy⟩ : ∃ y, c[k]? = some y := ⟨_, List.getElem?_eq_getElem hkc⟩
      have hcy : ∀ h : k < (bs c).size, (bs c)[k]'h = y := fun h => (List.getElem?_eq_some_iff.1 hy).2
      have hkc2 : k < (bs c).size := by rw [bs_size]; exact hkc
      have hkS : k < S.size := by omega
      have hS1 := hSx hkS
      have hc1 := hcy hkc2
      have HYX := Lib.hid (show ((((bs c)[k]'hkc2).toNat : Int) != ((S[k]'hkS).toNat : Int)) = true by
        rw [hS1, hc1, bne_iff_ne]
        have := hc _ _ hy
        omega)
      have HSX := Lib.hid (show (((S[k]'hkS).toNat : Int)) = x.toNat by rw [hS1])
      have IB := Lib.hid (fun W => sbyte_any (bs (c.drop (k + 1))) x W)
      have hnx : Lib.indexByte (c.drop (k + 1)) x = -1 := by
        rcases indexB_bounds (c.drop (k + 1)) x with ⟨h, _⟩ | ⟨j, _, _, h3, _⟩
        · exact h
        · rw [List.getElem?_drop] at h3
          have := hc _ _ h3
          omega
      rw [bs_list, hnx] at IB
      have hdr := bs_drop c (k + 1)
      have HDR := Lib.hid hdr
      have HHC := Lib.hid hc
      have IX3 := Lib.hid (fun W => sl_str c (k + 1) (by omega) W)
      have HI := Lib.hid (show ((k + 1 : Nat) : Int) ≤ ((bs c).size : Int) by omega)
      clear hc hy hnx hdr hSx hcy hS1 hc1 hcs
      rcases (by omega : k = 1 ∨ k = 2 ∨ k = 3) with rfl | rfl | rfl
      all_goals
        go_step3
        go_wp2_with fail
        refine wp_loop_rounds 1 ?_
        rw [rounds_succ]
        clear hen
        go_wp2_with fail
        go_step3
        have hyx := HYX.out
        go_upto_region 6 with fail
        go_quiet (fail)
        clear hyx
        have hw2 : IntKind.i64.wrap 2 = 2 := by decide
        have hw3 : IntKind.i64.wrap 3 = 3 := by decide
        have hw4 : IntKind.i64.wrap 4 = 4 := by decide
        have hI := HI.out
        have hdr := HDR.out
        have hsx := HSX.out
        clear HYX HSX
        simp only [Nat.reduceAdd, Int.cast_ofNat_Int] at hI hdr
        obtain ⟨W2, hW2⟩ : ∃ W2, W2 = w.drewN nq := ⟨_, rfl⟩
        have b2 : Below w.heap.size w W2 := by rw [hW2]; exact below_draw (Below.refl _ _) _
        rw [← hW2]
        have ib := fun W => (IB.out W).mono (R' := fun e w' => e = .returned (.int .i64 (-1)) ∧ w' = W) (fun e w' h => ⟨h.1, h.2.symm⟩)
        simp only [Nat.reduceAdd] at ib
        clear hW2
        go_upto_region 7 with fail
        go_quiet ((go_at_call 62; exact Calls.quiet_of_same (ib _)))
        obtain ⟨W5, hW5⟩ : ∃ W5, W5 = W2.drewN nq := ⟨_, rfl⟩
        have b5 : Below w.heap.size w W5 := by rw [hW5]; exact below_draw b2 _
        rw [← hW5]
        clear hW5 ib hdr hI hsx hw2 hw3 hw4
        go_wp2_with fail
        rw [Exit.noGoto_ret]
        (try simp only [Exit.inBlock, Exit.then])
        rw [Exit.noGoto_ret]
        (try simp only [Exit.inBlock])
        go_ret
        exact ⟨rfl, b5⟩
end Go.Proofs.YtobdlfikomnmcaaGreatDoor

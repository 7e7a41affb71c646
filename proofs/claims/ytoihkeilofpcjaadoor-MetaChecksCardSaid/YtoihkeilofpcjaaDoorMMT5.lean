/- Layer 9: the document's bytes of a meta; Lists, Holds. -/
import Derived.Test.YtoihkeilofpcjaaDoorMMT2
import Derived.Test.YtoihkeilofpcjaaDoorMMT4
namespace Go.Proofs.YtoihkeilofpcjaaDoor
open Go.RowKit Go.Lib
set_option linter.unusedVariables false

set_option maxHeartbeats 2000000 in
set_option maxRecDepth 100000 in
theorem rencode9_any (m : Mt.Me) (vf vs : Value) (w : World) (h : MeR w m vf vs) (hc : Mt.chk m = true) (hsum : ∀ f ∈ m.files, f.sum < 4294967296) :
    Calls Tryd.prog 11 #[meV m vf vs] w fun e w' => e = .returned (.string (bs (Fr.rec 1 (Mt.fld m)))) ∧ Below w.heap.size w w' := by
  have F := Lib.hid (fun W hW => rfields9_any m vf vs W hW hc hsum)
  have H := Lib.hid h
  obtain ⟨-, af, kf, gf, o5f, rfl, -⟩ := h.1
  obtain ⟨-, a5, k5, g5, o5, rfl, -⟩ := h.2.1
  have hfl := Mt.fld_len m hc
  obtain ⟨d, hd⟩ : ∃ d, d = Mt.fld m := ⟨_, rfl⟩
  rw [← hd] at F hfl ⊢
  have R := Lib.hid (fun W => r2bytes_any 1 d W (by omega))
  clear h hc hsum hd
  unfold meV at F ⊢
  go_enter Tryd.func11, Tryd.ntmps11
  go_wp2_with fail
  refine (F.out _ (H.out.on ((Below.refl _ _).alloc (Nat.le_refl _) _))).mono ?_
  rintro e w1 ⟨rfl, b1⟩
  go_wp2_with fail
  refine (R.out _).mono ?_
  rintro e w2 ⟨rfl, b2⟩
  go_wp2
  go_ret
  exact ⟨rfl, below_step (((Below.refl _ _).alloc (Nat.le_refl _) _).trans (b1.mono (by simp))) b2⟩

set_option maxHeartbeats 1000000 in
set_option maxRecDepth 100000 in
theorem sindex_any (l : List (List UInt8)) (v : Value) (k : List UInt8) (w : World) (h : Rd w 1 v l.length (sc l)) (hl : l.length ≤ 1000000) :
    Calls Tryd.prog 50 #[v, .string (bs k)] w fun e w' => ∃ i : Int, e = .returned (.int .i64 i) ∧ (0 ≤ i ↔ k ∈ l) ∧ w = w' := by
  have hT := bs_toList
  obtain ⟨_, a, cap, g, off, rfl, hg, hc⟩ := h
  simp only [Nat.mul_one] at hg hc
  obtain ⟨n, hn⟩ : ∃ n, n = l.length := ⟨_, rfl⟩
  rw [← hn] at hg hc hl ⊢
  have HN := Lib.hid hn
  have HG := Lib.hid hg
  have HC := Lib.hid hc
  clear hn hg hc
  go_enter Tryd.func50, Tryd.ntmps50
  go_wp2_with fail
  go_loopw [8] (fun i' wr => ∃ i : Nat, i' = .int .i64 i ∧ i ≤ n ∧ Hid (∀ j x, j < i → l[j]? = some x → x ≠ k) ∧ wr = w) (fun i' _ => n - (intOf i').toNat)
  case atStart => exact ⟨0, rfl, by omega, Lib.hid (fun j x hj => absurd hj (Nat.not_lt_zero _)), rfl⟩
  case round =>
    obtain ⟨i, rfl, hi, hk, rfl⟩ := hrel
    by_cases hlt : i < n
    · obtain ⟨rfl, hgl⟩ := HG.out (by omega)
      obtain ⟨x, hx⟩ : ∃ x, l[i]? = some x := ⟨l[i]'(by have := HN.out; omega), List.getElem?_eq_getElem (by have := HN.out; omega)⟩
      have q0 := (HC.out i (by omega)).trans (sc_at l i x hx)
      have hil : (i : Int) < n := by omega
      by_cases hxk : x = k
      · have hq : (k == x) = true := beq_iff_eq.2 hxk.symm
        have HM := Lib.hid (show k ∈ l by rw [← hxk]; exact List.mem_of_getElem? hx)
        clear hk hx hxk
        go_wp2_with fail
        go_ret
        exact ⟨_, rfl, ⟨fun _ => HM.out, fun _ => by omega⟩, rfl⟩
      · have hq : (k == x) = false := beq_eq_false_iff_ne.2 fun e => hxk e.symm
        have HK := Lib.hid (show ∀ j y, j < i + 1 → l[j]? = some y → y ≠ k from fun j y hj hy => by
          by_cases hji : j < i
          · exact hk.out j y hji hy
          · have : j = i := by omega
            subst this
            rw [hx] at hy
            cases hy
            exact hxk)
        clear hk hx hxk
        go_wp2_with fail
        exact ⟨⟨i + 1, by go_num, by omega, HK, trivial⟩, by simp [intOf]; omega⟩
    · have hil : ¬ (i : Int) < n := by omega
      have HM := Lib.hid (show ¬ k ∈ l from fun hm => by
        obtain ⟨j, hj⟩ := List.mem_iff_getElem?.1 hm
        have h1 := (List.getElem?_eq_some_iff.1 hj).1
        exact hk.out j k (by have := HN.out; omega) hj rfl)
      clear hk
      go_wp2_with fail
      go_ret
      exact ⟨-1, rfl, ⟨fun h => absurd h (by decide), fun h => absurd h HM.out⟩, rfl⟩

set_option maxRecDepth 100000 in
theorem contains_any (l : List (List UInt8)) (v : Value) (k : List UInt8) (w : World) (h : Rd w 1 v l.length (sc l)) (hl : l.length ≤ 1000000) :
    Calls Tryd.prog 34 #[v, .string (bs k)] w fun e w' => e = .returned (.bool (decide (k ∈ l))) ∧ w = w' := by
  have I := Lib.hid (sindex_any l v k w h hl)
  go_enter Tryd.func34, Tryd.ntmps34
  go_wp2_with fail
  refine I.out.mono ?_
  rintro e w1 ⟨i, rfl, hi, rfl⟩
  go_wp2
  go_ret
  exact ⟨rfl, rfl⟩
set_option maxRecDepth 100000 in
theorem lists9_any (m : Mt.Me) (vf vs : Value) (k : List UInt8) (w : World) (h : MeR w m vf vs) :
    Calls Tryd.prog 15 #[meV m vf vs, .string (bs k)] w fun e w' => e = .returned (.bool (decide (k ∈ m.src))) ∧ Below w.heap.size w w' := by
  have C := Lib.hid (fun W (hW : MeR W m vf vs) => contains_any m.src vs k W hW.2.1 hW.2.2.2)
  have H := Lib.hid h
  obtain ⟨-, af, kf, gf, o5f, rfl, -⟩ := h.1
  obtain ⟨-, a5, k5, g5, o5, rfl, -⟩ := h.2.1
  clear h
  unfold meV
  go_enter Tryd.func15, Tryd.ntmps15
  go_wp2_with fail
  refine (C.out _ (H.out.on ((Below.refl _ _).alloc (Nat.le_refl _) _))).mono ?_
  rintro e w1 ⟨rfl, rfl⟩
  go_wp2
  go_ret
  exact ⟨rfl, (Below.refl _ _).alloc (Nat.le_refl _) _⟩

set_option maxHeartbeats 1000000 in
set_option maxRecDepth 100000 in
theorem holds9_any (a : ByteArray) (sz : Int) (sm : Nat) (d : List UInt8) (w : World) (hd : d.length ≤ 140737488350000) :
    Calls Tryd.prog 17 #[.agg #[.string a, .int .i64 sz, .int .u32 sm], .string (bs d)] w fun e w' => e = .returned (.bool (decide (sz = d.length) && decide (sm = Crc.sum d))) ∧ Below w.heap.size w w' := by
  have hz : (bs d).size = d.length := bs_size d
  obtain ⟨cs, hcs⟩ : ∃ cs, cs = Crc.sum d := ⟨_, rfl⟩
  have HS := Lib.hid (fun W => show Calls Tryd.prog 33 #[.string (bs d)] W (fun e w' => e = .returned (.int .u32 (cs : Nat)) ∧ W = w') from by rw [hcs]; exact fsum_bs d W (by rw [bs_size]; unfold maxLen; omega))
  rw [← hcs]
  clear hcs
  have hh := heap_alloc_new w (.cells #[.string a, .int .i64 sz, .int .u32 sm] 42)
  obtain ⟨V, hV⟩ : ∃ V, V = w.alloc (.cells #[.string a, .int .i64 sz, .int .u32 sm] 42) := ⟨_, rfl⟩
  have HV := Lib.hid hV
  have BV := Lib.hid (show Below w.heap.size w V by rw [hV]; exact (Below.refl _ _).alloc (Nat.le_refl _) _)
  rw [← hV] at hh
  have g1 : V.cell? ⟨w.heap.size, 1, none⟩ = some (.int .i64 sz) := (cell_of_row _ _ 1 _ _ _ hh).trans rfl
  have g2 : V.cell? ⟨w.heap.size, 2, none⟩ = some (.int .u32 sm) := (cell_of_row _ _ 2 _ _ _ hh).trans rfl
  clear hV hh
  obtain ⟨q, hq⟩ : ∃ q, q = d.length := ⟨_, rfl⟩
  rw [← hq] at hz hd ⊢
  clear hq
  by_cases h : sz = q
  · have h1 : decide (sz = q) = true := decide_eq_true h
    have hb : (sz == (q : Int)) = true := beq_iff_eq.2 h
    have H := Lib.hid (show (decide (sz = q) && decide (sm = cs)) = ((sm : Int) == (cs : Int)) by
      rw [h1, Bool.true_and]
      by_cases e : sm = cs
      · rw [decide_eq_true e, e]; simp
      · rw [decide_eq_false e]; symm; simp; omega)
    rw [H.out]
    clear h h1
    go_enter Tryd.func17, Tryd.ntmps17
    go_upto_region 1 with fail
    rw [← HV.out]
    go_region_held3 (fun W => W.cell? ⟨w.heap.size, 1, none⟩ = some (.int .i64 sz) ∧ W.cell? ⟨w.heap.size, 2, none⟩ = some (.int .u32 sm)) (first | exact ⟨g1, g2⟩ | assumption)
      (first | (go_at_call 33; (with_reducible refine (HS.out _).mono ?_); rintro e w1 ⟨rfl, rfl⟩) | fail)
    go_wp2_with fail
    go_ret
    exact ⟨rfl, BV.out.drew⟩
  · have h1 : decide (sz = q) = false := decide_eq_false h
    have hb : (sz == (q : Int)) = false := beq_eq_false_iff_ne.2 h
    have H := Lib.hid (show (decide (sz = q) && decide (sm = cs)) = false by rw [h1]; rfl)
    rw [H.out]
    clear h1
    go_enter Tryd.func17, Tryd.ntmps17
    go_upto_region 1 with fail
    rw [← HV.out]
    go_quiet (fail)
    go_wp2_with fail
    go_ret
    exact ⟨rfl, below_draw BV.out _⟩
end Go.Proofs.YtoihkeilofpcjaaDoor

/- Layer 6: unlike; the statement LabelAnyOrder walked. -/
import Derived.Test.YtfdbhmdaiihmhaaDoorLF
import Derived.Deep.RegionHeld3
import Derived.Deep.QuietTactic
import Derived.BigQuiet
namespace Go.Proofs.YtfdbhmdaiihmhaaDoor
open Go.RowKit Go.Lib

/-- A truth, whichever. -/
def SomeB (w : World) (e : Ending) (w' : World) : Prop := ∃ b n, e = .returned (.bool b) ∧ w' = w.drewN n

set_option maxHeartbeats 2000000 in
set_option maxRecDepth 100000 in
theorem unlike_any (v : Value) (ds : List Pr) (w : World) (h : Rd w 2 v ds.length (prc ds)) (hm : ds.length ≤ 1000000) :
    Calls Tryd.prog 24 #[v] w (SomeB w) := by
  have hT := bs_toList
  obtain ⟨_, a, cap, g, off, rfl, hg, hc⟩ := h
  obtain ⟨n, hn⟩ : ∃ n, n = ds.length := ⟨_, rfl⟩
  rw [← hn] at hg hc hm ⊢
  have HN := Lib.hid hn
  have HC := Lib.hid hc
  have HG := Lib.hid hg
  clear hn hc hg
  go_enter Tryd.func24, Tryd.ntmps24
  go_wp2_with fail
  go_loopw [7] (fun i' wr => ∃ (i k : Nat), i' = .int .i64 i ∧ i ≤ n ∧ wr = w.drewN k) (fun i' _ => n - (intOf i').toNat)
  case atStart => exact ⟨0, 0, rfl, by omega, rfl⟩
  case round =>
    obtain ⟨i, k, rfl, hi, rfl⟩ := hrel
    by_cases hlt : i < n
    · obtain ⟨rfl, hgl⟩ := HG.out (by omega)
      have hil : (i : Int) < n := by omega
      obtain ⟨x, hx⟩ : ∃ x, ds[i]? = some x := ⟨ds[i]'(by have := HN.out; omega), List.getElem?_eq_getElem (by have := HN.out; omega)⟩
      have q0 := (HC.out (i * 2) (by omega)).trans (prc_at ds i x hx).1
      clear hx
      go_wp2_with fail
      go_loopw [4] (fun j' wr => ∃ (j k : Nat), j' = .int .i64 j ∧ j ≤ i ∧ wr = w.drewN k) (fun j' _ => i - (intOf j').toNat)
      case atStart => exact ⟨0, k, rfl, by omega, rfl⟩
      case round =>
        obtain ⟨j, k2, rfl, hj, rfl⟩ := hrel
        by_cases hjl : j < i
        · obtain ⟨y, hy⟩ : ∃ y, ds[j]? = some y := ⟨ds[j]'(by have := HN.out; omega), List.getElem?_eq_getElem (by have := HN.out; omega)⟩
          have p0 := (HC.out (j * 2) (by omega)).trans (prc_at ds j y hy).1
          have hji : (j : Int) < i := by omega
          have hjn : (j : Int) < n := by omega
          have c0 : (w.drewN k2).cell? ⟨g, off + j * 2, none⟩ = some (.string (bs y.n)) := p0
          have c1 : (w.drewN k2).cell? ⟨g, off + i * 2, none⟩ = some (.string (bs x.n)) := q0
          have d0 : (w.drewN k2).drew.cell? ⟨g, off + j * 2, none⟩ = some (.string (bs y.n)) := p0
          have d1 : (w.drewN k2).drew.cell? ⟨g, off + i * 2, none⟩ = some (.string (bs x.n)) := q0
          clear hy
          by_cases hq : y.n = x.n
          · have hb : (y.n == x.n) = true := by simpa using hq
            clear hq
            go_wp2_with fail
            go_region
            go_wp2
            go_ret
            exact ⟨_, k2 + 1, rfl, by simp⟩
          · have hb : (y.n == x.n) = false := by simpa using hq
            clear hq
            go_wp2_with fail
            go_region
            go_wp2
            exact ⟨⟨j + 1, k2 + 1, by simp, by omega, by simp⟩, by simp [intOf]; omega⟩
        · have hji : ¬ (j : Int) < i := by omega
          go_wp2
          exact ⟨⟨i + 1, k2, by simp, by omega, rfl⟩, by simp [intOf]; omega⟩
    · have hil : ¬ (i : Int) < n := by omega
      go_wp2
      go_ret
      exact ⟨_, k, rfl, rfl⟩

theorem Sl.upto {w : World} {base size g off n cap : Nat} {xs : List Value} (h : Sl w base size (.slice (some ⟨g, off, none⟩) n cap) n xs) (i : Nat) (hi : i ≤ n) :
    Sl w base size (.slice (some ⟨g, off, none⟩) i cap) i (xs.take (i * size)) := by
  refine ⟨by rw [List.length_take, h.1]; exact Nat.min_eq_left (Nat.mul_le_mul_right _ hi), ?_⟩
  rcases h.2 with ⟨h0, _⟩ | ⟨g', off', cap', he, hb, hg, hnc, hcm, hf, hc⟩
  · cases h0
  · cases he
    refine .inr ⟨g, off, cap, rfl, hb, hg, by omega, hcm, hf, fun j hj => ?_⟩
    rw [List.getElem?_take, if_pos hj]
    exact hc j (Nat.lt_of_lt_of_le hj (Nat.mul_le_mul_right _ hi))
theorem Sl.from {w : World} {base size g off n cap : Nat} {xs : List Value} (h : Sl w base size (.slice (some ⟨g, off, none⟩) n cap) n xs) (i : Nat) (hi : i ≤ n) :
    Sl w base size (.slice (some ⟨g, off + i * size, none⟩) (n - i) (cap - i)) (n - i) (xs.drop (i * size)) := by
  refine ⟨by rw [List.length_drop, h.1, Nat.sub_mul], ?_⟩
  rcases h.2 with ⟨h0, _⟩ | ⟨g', off', cap', he, hb, hg, hnc, hcm, hf, hc⟩
  · cases h0
  · cases he
    refine .inr ⟨g, off + i * size, cap - i, rfl, hb, hg, by omega, by omega, fun j hj => ?_, fun j hj => ?_⟩
    · rw [Nat.add_assoc]
      rw [Nat.sub_mul] at hj
      exact hf _ (by have := Nat.mul_le_mul_right size (show i ≤ cap by omega); omega)
    · rw [Nat.add_assoc, List.getElem?_drop]
      rw [Nat.sub_mul] at hj
      exact hc _ (by have := Nat.mul_le_mul_right size hi; omega)

theorem prc_take : ∀ (ds : List Pr) (k : Nat), (prc ds).take (k * 2) = prc (ds.take k)
  | [], k => by simp [prc]
  | x :: ds, 0 => by simp [prc]
  | x :: ds, k + 1 => by
    rw [show (k + 1) * 2 = k * 2 + 1 + 1 by omega, prc_cons, List.take_succ_cons, prc_cons, ← prc_take ds k]
    rfl
theorem prc_drop : ∀ (ds : List Pr) (k : Nat), (prc ds).drop (k * 2) = prc (ds.drop k)
  | [], k => by simp [prc]
  | x :: ds, 0 => by simp
  | x :: ds, k + 1 => by
    rw [show (k + 1) * 2 = k * 2 + 1 + 1 by omega, prc_cons, List.drop_succ_cons, ← prc_drop ds k]
    rfl
theorem run_cutP (g off N k uc : Nat) (hk : k ≤ uc) (W : World) : (Instr.slice 22 (.slice (some ⟨g, off, none⟩) N uc) none (some (.int .i64 (k : Int))) none).run Tryd.prog W = .ok (.slice (some ⟨g, off, none⟩) k uc) W := by
  have hu := run_underlying Tryd.underlying22
  have hz := Tryd.sizeOf82
  have h1 : (0 : Int) ≤ k := by omega
  have h2 : (k : Int) ≤ uc := by omega
  simp [Instr.slice, Instr.sliceBounds, go_sem, hu, hz, h2, Addr.add]
theorem run_fromP (g off N k uc : Nat) (hk : k ≤ N) (hu' : k < uc) (W : World) : (Instr.slice 22 (.slice (some ⟨g, off, none⟩) N uc) (some (.int .i64 (k : Int))) none none).run Tryd.prog W = .ok (.slice (some ⟨g, off + k * 2, none⟩) (N - k) (uc - k)) W := by
  have hu := run_underlying Tryd.underlying22
  have hz := Tryd.sizeOf82
  have h1 : (0 : Int) ≤ k := by omega
  have h2 : (k : Int) ≤ N := by omega
  have h3 : ¬ uc = k := by omega
  simp [Instr.slice, Instr.sliceBounds, go_sem, hu, hz, h2, h3, Addr.add]
theorem run_tail (w : World) (base g off N k uc : Nat) (xs : List Value) (hk : k ≤ N) (hs : Sl w base 2 (.slice (some ⟨g, off, none⟩) N uc) N xs) :
    ∃ T, (∀ W, (Instr.slice 22 (.slice (some ⟨g, off, none⟩) N uc) (some (.int .i64 (k : Int))) none none).run Tryd.prog W = .ok (.slice (some ⟨g, T, none⟩) (N - k) (uc - k)) W) ∧ Sl w base 2 (.slice (some ⟨g, T, none⟩) (N - k) (uc - k)) (N - k) (xs.drop (k * 2)) := by
  have hnc : N ≤ uc := by
    rcases hs.2 with ⟨h0, _⟩ | ⟨_, _, _, he, _, _, h, _⟩
    · cases h0
    · cases he; exact h
  by_cases hku : k < uc
  · exact ⟨off + k * 2, fun W => run_fromP g off N k uc hk hku W, hs.from k hk⟩
  · have e1 : N - k = 0 := by omega
    have e2 : uc - k = 0 := by omega
    refine ⟨off, fun W => ?_, ?_⟩
    · have hu := run_underlying Tryd.underlying22
      have hz := Tryd.sizeOf82
      have h2 : (k : Int) ≤ N := by omega
      have h3 : uc = k := by omega
      simp [Instr.slice, Instr.sliceBounds, go_sem, hu, hz, h2, h3, Addr.add]
    · have h := hs.from k hk
      refine ⟨h.1, ?_⟩
      rcases h.2 with ⟨h0, _⟩ | ⟨g', off', cap', he, hb, hg, _, hcm, _, _⟩
      · cases h0
      · cases he
        exact .inr ⟨g, off, uc - k, rfl, hb, hg, by omega, hcm, fun j hj => by omega, fun j hj => by omega⟩
/-- 'append(v, x..)', x nil, in a region that draws its order. -/
theorem step_append_nil {P : Program} {ops : Array Oper} {o : Oper} {a : Act} {w : World} {K : Act → World → Prop} {Q : Exit → Act → World → Prop} {E : Prop} (hgd : o.guard = none) (s x : Operand) (t : TypeId)
    (ho : o.op = .call { callee := .builtin .append, args := #[s, x], argTypes := #[t, t] })
    (base : Nat) (e : TypeId) (i : TypeInfo) (size : Nat) (ht : P.underlying t = some (.slice e)) (hi : P.info? e = some i)
    (v : Value) (n : Nat) (xs : List Value) (hs : a.eval s = v) (hown : Sl w base size v n xs) (hx : a.eval x = .slice none 0 0)
    (h : K (a.put o.dst v) w) :
    if Region.wanted o (yielded ops a.tmps) = true then Oper.wp P o a w K Q else E := by
  have hw : Region.wanted o (yielded ops a.tmps) = true := by simp [Region.wanted, hgd]
  rw [if_pos hw]
  have hr := run_append_none_sl (P := P) w base t o.type e i size ht hi v n xs hown
  unfold Oper.wp execOp
  simp only [ho, resolve, invoke, builtin, Sem.run_bind, Sem.run_pure, Result.andThen_ok, List.map_toArray, List.map_cons, List.map_nil, hs, hx, hr]
  exact h
theorem run_nil1 (W : World) : (Instr.slice 22 (.slice none 0 0) (some (.int .i64 0)) none none).run Tryd.prog W = .ok (.slice none 0 0) W := by
  have hu := run_underlying Tryd.underlying22
  have hz := Tryd.sizeOf82
  simp [Instr.slice, Instr.sliceBounds, go_sem, hu, hz]
theorem run_nil2 (W : World) : (Instr.slice 22 (.slice none 0 0) none (some (.int .i64 0)) none).run Tryd.prog W = .ok (.slice none 0 0) W := by
  have hu := run_underlying Tryd.underlying22
  have hz := Tryd.sizeOf82
  simp [Instr.slice, Instr.sliceBounds, go_sem, hu, hz]

theorem made_same (a b : List Pr) (h : a.Perm b) : sortP a = sortP b := (sortP_of ((sortP_perm a).trans h) (sortP_rising a))

set_option maxHeartbeats 4000000 in
set_option maxRecDepth 100000 in
theorem anyorder_any (a0 : Option Addr) (len0 cap0 : Nat) (z0 : List Pr) (k : Int) (w : World) (m0 : len0 ≤ maxLen) (w0 : PrsAt w a0 len0 z0) :
    Calls Tryd.prog 8 #[.slice a0 len0 cap0, .int .i64 k] w fun e w' => e = .returned (.bool true) ∧ Below w.heap.size w w' := by
  obtain ⟨i0, hi, hz0, hz1, hz2⟩ := info_parts zc_pair
  have Hz := Lib.hid hz0; have Hs := Lib.hid hz1; have Hb := Lib.hid hz2; have Hi := Lib.hid hi
  clear hz0 hz1 hz2 hi
  obtain ⟨A, hA⟩ : ∃ A, A = f42 z0 := ⟨_, rfl⟩
  have lA : A.length ≤ 10 := by rw [hA]; exact w0.len
  have F0 := Lib.hid (fun W (b : Below w.heap.size w W) => show Calls Tryd.prog 16 #[.slice a0 len0 cap0] W (NewP W A) by rw [hA]; exact few_any a0 len0 cap0 z0 W m0 (w0.below b))
  clear hA w0
  go_enter Tryd.func8, Tryd.ntmps8
  go_wp2_with fail
  refine (F0.out _ (Below.refl _ _)).mono ?_
  rintro e w1 ⟨u0, rfl, s0, b0⟩
  obtain ⟨N, hN⟩ : ∃ N, N = A.length := ⟨_, rfl⟩
  rw [← hN] at s0 lA
  have HN := Lib.hid hN
  clear hN
  obtain ⟨ua, uc, rfl⟩ := s0.slice
  go_wp2_with fail
  refine (lawake_any _).mono ?_
  rintro e w2 ⟨rfl, b2⟩
  have bb2 := below_step b0 b2
  have s2 := s0.bl b2
  by_cases hk0 : k < 0
  · have d0 : decide (k < 0) = true := by simpa using hk0
    go_wp2_with fail
    refine (lawake_any _).mono ?_
    rintro e w3 ⟨rfl, b3⟩
    go_wp2
    go_ret
    exact ⟨rfl, below_step bb2 b3⟩
  · have d0 : decide (k < 0) = false := by simpa using hk0
    by_cases hkn : (N : Int) < k
    · have d1 : decide ((N : Int) < k) = true := by simpa using hkn
      go_wp2_with fail
      refine (lawake_any _).mono ?_
      rintro e w3 ⟨rfl, b3⟩
      go_wp2
      go_ret
      exact ⟨rfl, below_step bb2 b3⟩
    · obtain ⟨k, rfl⟩ := Int.eq_ofNat_of_zero_le (show 0 ≤ k by omega)
      have d1 : decide ((N : Int) < k) = false := by simpa using hkn
      have hkN : k ≤ N := by omega
      have HU := Lib.hid (unlike_any (.slice ua N uc) A w2 (by rw [← HN.out]; exact Rd.of_sl s2) (by rw [← HN.out]; omega))
      go_wp2_with fail
      refine HU.out.mono ?_
      rintro e w3 ⟨b, n3, rfl, rfl⟩
      have bb3 := below_draw bb2 n3
      have s3 : Sl (w2.drewN n3) w.heap.size 2 (.slice ua N uc) N (prc A) := s2.same (Nat.le_refl _) (fun _ _ => rfl)
      cases b with
      | false =>
        go_wp2_with fail
        refine (lawake_any _).mono ?_
        rintro e w4 ⟨rfl, b4⟩
        go_wp2
        go_ret
        exact ⟨rfl, below_step bb3 b4⟩
      | true =>
        have HM := Lib.hid (make_any (.slice ua N uc) A w.heap.size (w2.drewN n3) (by rw [← HN.out]; exact s3) (by rw [← HN.out]; omega))
        go_wp2_with fail
        refine HM.out.mono ?_
        rintro e w4 ⟨va, rfl, t4, b4⟩
        have bb4 := below_step bb3 b4
        have s4 := s3.bl b4
        obtain ⟨E, hE⟩ : ∃ E, E = cE (chk (sortP A)) := ⟨_, rfl⟩
        rw [← hE]
        have HE := Lib.hid hE
        clear hE
        go_wp2_with fail
        have hEb : cE (chk (sortP (A.drop k ++ A.take k))) = E := by
          rw [HE.out, made_same _ A]
          have := List.perm_append_comm (l₁ := A.drop k) (l₂ := A.take k)
          rwa [List.take_append_drop] at this
        have hCb : cmpS (sortP A) (sortP (A.drop k ++ A.take k)) = 0 := by
          rw [made_same (A.drop k ++ A.take k) A]
          · exact cmpS_self _
          · have := List.perm_append_comm (l₁ := A.drop k) (l₂ := A.take k)
            rwa [List.take_append_drop] at this
        have hlA : (sortP A).length ≤ 1000000 := by rw [(sortP_perm A).length_eq, ← HN.out]; omega
        have hlB : (A.drop k ++ A.take k).length = N := by rw [List.length_append, List.length_drop, List.length_take, ← HN.out]; omega
        have hlB2 : (sortP (A.drop k ++ A.take k)).length ≤ 1000000 := by rw [(sortP_perm _).length_eq, hlB]; omega
        have HEB := Lib.hid hEb; have HCB := Lib.hid hCb; have HLB := Lib.hid hlB
        clear hEb hCb hlB
        have hz4 := bb4.size
        have lit0 : Sl ((w4.alloc (.cells #[] 82)).drew) w4.heap.size 2 (.slice (some ⟨w4.heap.size, 0, none⟩) 0 0) 0 [] := Sl.lit w4 w4.heap.size 2 0 #[] 82 (Nat.le_refl _) (by decide) rfl
        rcases s4.2 with ⟨he, hN0⟩ | ⟨g, off, cap, he, hgb, hgl, hnc, hcm, _⟩
        · cases he
          clear hN0
          obtain rfl : k = 0 := by omega
          have hr1 := fun W => run_nil1 W
          have hr2 := fun W => run_nil2 W
          have hA0 : A = [] := List.eq_nil_of_length_eq_zero HN.out.symm
          have HA0 := Lib.hid hA0
          clear hA0
          go_region_held3 (fun _ => True) (trivial)
            (first
              | (refine step_append_nil rfl (.tmp 35) (.tmp 38) 22 rfl w4.heap.size 82 i0 2 Tryd.underlying22 Hi.out _ 0 [] (by simp [Act.eval]) lit0 (by simp [Act.eval]) ?_)
              | (refine step_append_nil rfl (.tmp 39) (.tmp 42) 22 rfl w4.heap.size 82 i0 2 Tryd.underlying22 Hi.out _ 0 [] (by simp [Act.eval]) lit0 (by simp [Act.eval]) ?_)
              | (go_at_call 18; refine (make_any _ (A.drop 0 ++ A.take 0) w4.heap.size ((w4.alloc (.cells #[] 82)).drew) (by rw [HLB.out, HA0.out]; exact lit0) (by rw [HLB.out]; omega)).mono ?_; rintro e w7 ⟨vb, rfl, t7, b7⟩; rw [HEB.out]))
          have ra := (Rd.of_sl t4).on (Below.trans ((Below.refl w4.heap.size w4).alloc (Nat.le_refl _) (.cells #[] 82)).drew (b7.mono (by simp)))
          go_wp2_with fail
          refine (cmp_lb va vb (sortP A) (sortP (A.drop 0 ++ A.take 0)) _ ra (Rd.of_sl t7) hlA hlB2).mono ?_
          rw [HCB.out]
          rintro e w8 ⟨rfl, b8⟩
          go_wp2
          go_ret
          exact ⟨rfl, (bb4.trans ((((Below.refl w4.heap.size w4).alloc (Nat.le_refl _) (.cells #[] 82)).drew.trans (b7.mono (by simp))).mono hz4)).trans (b8.mono (by have := b7.size; simp at this; omega))⟩
        · cases he
          obtain ⟨T, hr1, tl⟩ := run_tail w4 w.heap.size g off N k uc (prc A) hkN s4
          have hr2 := fun W => run_cutP g off N k uc (by omega) W
          rw [prc_drop] at tl
          have tl2 : Sl ((w4.alloc (.cells #[] 82)).drew) w.heap.size 2 (.slice (some ⟨g, T, none⟩) (N - k) (uc - k)) (N - k) (prc (A.drop k)) := tl.alloc _
          have hd := s4.upto k hkN
          rw [prc_take] at hd
          have hl1 : (prc (A.drop k)).length = (N - k) * 2 := tl.1
          have hl2 : (prc (A.take k)).length = k * 2 := hd.1
          have hdl : ∀ w5 : World, (w4.alloc (.cells #[] 82)).drew.grownBy w5 (Value.slice (some ⟨w4.heap.size, 0, none⟩) 0 0).ownBlock → Sl w5 w.heap.size 2 (.slice (some ⟨g, off, none⟩) k uc) k (prc (A.take k)) := fun w5 hg5 =>
            hd.same (by have := hg5.size; simp at this; omega) (fun j hj => by
              have hjl := (hd.lt j hj).2
              exact (hg5.block j (by simp; omega) (fun e => by have e2 : j = w4.heap.size := Option.some.inj e; omega)).trans (Below.heap_alloc w4 _ j hjl))
          have HDL := Lib.hid hdl
          have hNk : N - k + k = N := by omega
          have HNk := Lib.hid hNk
          clear hdl hNk
          go_region_held3 (fun _ => True) (trivial)
            (first
              | (refine step_append_sl rfl (.tmp 35) (.tmp 38) 22 rfl w4.heap.size 82 i0 _ 2 32 Tryd.underlying22 Hi.out Hz.out Hs.out Hb.out rfl (by decide) _ 0 [] (by simp [Act.eval]) lit0 ⟨g, T, none⟩ (N - k) (uc - k) (prc (A.drop k)) (by simp [Act.eval]) hl1 tl2.cells (prc_one _) (by unfold maxLen; omega) (by omega) (by simp) ?_; intro v5 w5 x5; have x5n := x5.now; rw [Nat.zero_add, List.nil_append] at x5n; have h5z := x5.grown.size)
              | (refine step_append_sl rfl (.tmp 39) (.tmp 42) 22 rfl w4.heap.size 82 i0 _ 2 32 Tryd.underlying22 Hi.out Hz.out Hs.out Hb.out rfl (by decide) _ (N - k) (prc (A.drop k)) (by simp [Act.eval]) x5n ⟨g, off, none⟩ k uc (prc (A.take k)) (by simp [Act.eval]) hl2 (HDL.out w5 x5.grown).cells (prc_one _) (by unfold maxLen; omega) (by omega) (by simp at h5z; omega) ?_; intro v6 w6 x6; have x6n := x6.now; rw [← prc_append, HNk.out] at x6n; have h6z := x6.grown.size)
              | (go_at_call 18; refine (make_any v6 (A.drop k ++ A.take k) w4.heap.size w6 (by rw [HLB.out]; exact x6n) (by rw [HLB.out]; omega)).mono ?_; rintro e w7 ⟨vb, rfl, t7, b7⟩; rw [HEB.out]))
          have h5s : w4.heap.size ≤ w5.heap.size := by simp at h5z; omega
          have bx : Below w4.heap.size w4 w6 := (((Below.refl w4.heap.size w4).alloc (Nat.le_refl _) (.cells #[] 82)).drew.trans (x5.below (Nat.le_refl _) (by simp))).trans (x6.below (Nat.le_refl _) h5s)
          have bx7 : Below w4.heap.size w4 w7 := bx.trans (b7.mono (by omega))
          have ra := (Rd.of_sl t4).on bx7
          go_wp2_with fail
          refine (cmp_lb va vb (sortP A) (sortP (A.drop k ++ A.take k)) _ ra (Rd.of_sl t7) hlA hlB2).mono ?_
          rw [HCB.out]
          rintro e w8 ⟨rfl, b8⟩
          go_wp2
          go_ret
          exact ⟨rfl, (bb4.trans (bx7.mono hz4)).trans (b8.mono (by have := bx7.size; omega))⟩
end Go.Proofs.YtfdbhmdaiihmhaaDoor

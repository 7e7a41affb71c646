/- Layer 13: the document's matcher of a text, walked. -/
import Derived.Test.YtobdlfikomnmcaaGreatDoorMTB8
import Derived.Test.YtobdlfikomnmcaaGreatDoorMTBA
import Derived.Test.YtobdlfikomnmcaaGreatDoorMTMC
import Derived.Deep.RegionHeld3
import Derived.Deep.Cut
import Derived.BigRegion
namespace Go.Proofs.YtobdlfikomnmcaaGreatDoor
open Go.RowKit Go.Lib
set_option linter.unusedVariables false

/-- The answer: whether it may be, and which. -/
def OneP (w : World) (s : List UInt8) (e : Ending) (w' : World) : Prop :=
  ∃ (k : Int) (n : List UInt8) (a : Option Addr) (m c : Nat), e = .returned (.tuple #[.agg #[.int .i64 k, .string (bs n), .slice a m c], .bool (mOk (mrOf s))]) ∧ Below w.heap.size w w' ∧
    (mOk (mrOf s) = true → k = (mrOf s).k ∧ n = (mrOf s).n ∧ Sl w' w.heap.size 1 (.slice a m c) (mrOf s).vs.length (txs (mrOf s).vs))

theorem results_one {P : Program} {fn : Func} {p q : Tmp} {ty : TypeId} (h : fn.results = #[.cell p ty, .tmp q]) (tmps : Array Value) (w : World) (g : Nat) (t : TypeId) (cs : Array Value) (fr : Nat × Nat) (d : TypeDesc) (b : Value)
    (hp : tmps.getD p undef = .pointer (some ⟨g, 0, none⟩)) (hq : tmps.getD q undef = b) (hg : w.heap[g]? = some (.cells cs t fr))
    (hu : P.underlying ty = some d) (hd : (match d with | .struct _ | .array _ _ => true | _ => false) = true) (hi : (P.info? ty).map (·.size) = some cs.size) :
    (results fn tmps).run P w = .ok (.tuple #[.agg cs, b]) w := by
  have hp' : tmps[p]?.getD undef = .pointer (some ⟨g, 0, none⟩) := by simpa using hp
  have hq' : tmps[q]?.getD undef = b := by simpa using hq
  have hl := run_loadVar_row w g t ty cs fr d hg hu hd hi
  simp [results, h, hp', hq', asAddr, hl]
/-- The matcher that is made anew in each round, and its one value. -/
structure MkM (W0 W2 : World) (mb sb : Nat) (P D : List UInt8) : Prop where
  m : W2.heap[mb]? = some (.cells #[.int .i64 0, .string (bs P), .slice (some ⟨sb, 0, none⟩) 1 1] 33)
  s : Sl W2 W0.heap.size 1 (.slice (some ⟨sb, 0, none⟩) 1 1) 1 [.string (bs D)]
  ne : sb ≠ mb
  ge : W0.heap.size ≤ mb
  lt : mb < W2.heap.size
  b : Below W0.heap.size W0 W2
theorem mk_ms (W0 : World) (P D : List UInt8) : MkM W0 ((W0.alloc (.cells #[.int .i64 0, .string (bs P), .slice (some ⟨W0.heap.size + 1, 0, none⟩) 1 1] 33)).alloc (.cells #[.string (bs D)] 9)).drew W0.heap.size (W0.heap.size + 1) P D := by
  have b1 : Below W0.heap.size W0 (W0.alloc (.cells #[.int .i64 0, .string (bs P), .slice (some ⟨W0.heap.size + 1, 0, none⟩) 1 1] 33)) := (Below.refl _ _).alloc (Nat.le_refl _) _
  have z1 : (W0.alloc (.cells #[.int .i64 0, .string (bs P), .slice (some ⟨W0.heap.size + 1, 0, none⟩) 1 1] 33)).heap.size = W0.heap.size + 1 := by simp
  have l1 := Sl.lit (W0.alloc (.cells #[.int .i64 0, .string (bs P), .slice (some ⟨W0.heap.size + 1, 0, none⟩) 1 1] 33)) W0.heap.size 1 1 #[.string (bs D)] 9 (by omega) (by decide) rfl
  rw [z1] at l1
  refine ⟨?_, l1, by omega, Nat.le_refl _, ?_, (b1.alloc (by omega) _).drew⟩
  · show ((W0.alloc _).alloc _).heap[W0.heap.size]? = _
    rw [Below.heap_alloc _ _ _ (by rw [z1]; omega)]
    exact heap_alloc_new W0 _
  · show W0.heap.size < ((W0.alloc _).alloc _).heap.size
    simp; omega
theorem mk_sm (W0 : World) (P D : List UInt8) : MkM W0 ((W0.alloc (.cells #[.string (bs D)] 9)).alloc (.cells #[.int .i64 0, .string (bs P), .slice (some ⟨W0.heap.size, 0, none⟩) 1 1] 33)).drew (W0.heap.size + 1) W0.heap.size P D := by
  have b1 : Below W0.heap.size W0 (W0.alloc (.cells #[.string (bs D)] 9)) := (Below.refl _ _).alloc (Nat.le_refl _) _
  have z1 : (W0.alloc (.cells #[.string (bs D)] 9)).heap.size = W0.heap.size + 1 := by simp
  have l1 := Sl.lit W0 W0.heap.size 1 1 #[.string (bs D)] 9 (Nat.le_refl _) (by decide) rfl
  refine ⟨?_, l1.alloc _, by omega, by omega, ?_, (b1.alloc (by omega) _).drew⟩
  · have := heap_alloc_new (W0.alloc (.cells #[.string (bs D)] 9)) (.cells #[.int .i64 0, .string (bs P), .slice (some ⟨W0.heap.size, 0, none⟩) 1 1] 33)
    rw [z1] at this
    exact this
  · show W0.heap.size + 1 < ((W0.alloc _).alloc _).heap.size
    simp

theorem onV_le (s : List UInt8) (i : Nat) (hl : s.length ≤ 100000) : (onV s i).length ≤ 1000000 ∧ ∀ x ∈ onV s i, x.length ≤ 1000000 := by
  unfold onV
  split
  · refine ⟨?_, fun x hx => ?_⟩
    · have := parts_count 124 (s.drop (i + 1)); simp at this; omega
    · have := parts_len 124 (s.drop (i + 1)) x hx; simp at this; omega
  · split <;> refine ⟨by simp, fun x hx => ?_⟩ <;> (rw [List.mem_singleton] at hx; subst hx; simp; omega)
/-- The matcher's cells before it is checked. -/
structure MkT (w W3 : World) (mb k : Nat) (P : List UInt8) (a : Option Addr) (nv cv : Nat) (V : List (List UInt8)) : Prop where
  m : W3.heap[mb]? = some (.cells #[.int .i64 (k : Int), .string (bs P), .slice a nv cv] 33)
  s : Sl W3 (w.heap.size + 1) 1 (.slice a nv cv) V.length (txs V)
  n : nv = V.length
  z : W3.heap[w.heap.size]? = some (.cells #[.int .i64 0, .string ⟨#[]⟩, .slice none 0 0] 33)
  b : Below w.heap.size w W3
  gt : w.heap.size < mb
  lt : mb < W3.heap.size
theorem mk_t0 {w W0 W2 : World} {mb sb : Nat} {P D : List UInt8} (h : MkM W0 W2 mb sb P D) (hz : W0.heap[w.heap.size]? = some (.cells #[.int .i64 0, .string ⟨#[]⟩, .slice none 0 0] 33) ∧ Below w.heap.size w W0) : MkT w W2 mb 0 P (some ⟨sb, 0, none⟩) 1 1 [D] := by
  have hlt := (Array.getElem?_eq_some_iff.1 hz.1).1
  exact ⟨h.m, h.s.mono hlt, rfl, (h.b.block _ hlt).trans hz.1, hz.2.trans (h.b.mono hz.2.size), by have := h.ge; omega, h.lt⟩
theorem MkT.kind {w W2 : World} {mb j : Nat} {P : List UInt8} {a : Option Addr} {nv cv : Nat} {V : List (List UInt8)} (h : MkT w W2 mb j P a nv cv V) (hs : ∀ p, a = some p → p.block ≠ mb) (k : Nat) : MkT w (W2.setCell ⟨mb, 0, none⟩ (.int .i64 (k : Int))) mb k P a nv cv V := by
  have hg := h.gt
  refine ⟨by rw [heap_setCell_same W2 mb 0 _ _ (.int .i64 (k : Int)) h.m]; rfl, h.s.same (by simp [World.setCell]) ?_, h.n, (Below.heap_setCell W2 ⟨mb, 0, none⟩ _ w.heap.size (by simp only; omega)).trans h.z, h.b.setCell (p := ⟨mb, 0, none⟩) (by simp only; omega) _, hg, by have := h.lt; simpa [World.setCell] using this⟩
  intro q hq
  refine Below.heap_setCell W2 ⟨mb, 0, none⟩ _ q ?_
  rcases a with _ | p
  · cases hq
  · have : p.block = q := by simpa [Value.ownBlock] using hq
    rw [← this]
    exact (hs p rfl)
theorem MkT.vals {w W2 : World} {mb k : Nat} {P : List UInt8} {a : Option Addr} {nv cv : Nat} {V : List (List UInt8)} (h : MkT w W2 mb k P a nv cv V) {W3 : World} (hb : Below W2.heap.size W2 W3) {a' : Option Addr} {nv' cv' : Nat} {V' : List (List UInt8)} (hs : Sl W3 W2.heap.size 1 (.slice a' nv' cv') V'.length (txs V')) (hn : nv' = V'.length) :
    MkT w (W3.setCell ⟨mb, 2, none⟩ (.slice a' nv' cv')) mb k P a' nv' cv' V' := by
  have hg := h.gt
  have hl := h.lt
  have hz := hb.size
  have hm := (hb.block mb hl).trans h.m
  refine ⟨by rw [heap_setCell_same W3 mb 2 _ _ (.slice a' nv' cv') hm]; rfl, (sl_else hs _ _ hl).mono (by omega), hn, (Below.heap_setCell W3 ⟨mb, 2, none⟩ _ w.heap.size (by simp only; omega)).trans ((hb.block _ (by omega)).trans h.z), (h.b.trans (hb.mono (by have := h.b.size; omega))).setCell (p := ⟨mb, 2, none⟩) (by simp only; omega) _, hg, by simp [World.setCell]; omega⟩

set_option maxHeartbeats 4000000 in
set_option maxRecDepth 100000 in
theorem rone13_any (s : List UInt8) (w : World) (hl : s.length ≤ 100000) :
    Calls Tryz.prog 17 #[.string (bs s)] w (OneP w s) := by
  have hT := bs_toList
  obtain ⟨n, hn⟩ : ∃ n, n = (bs s).size := ⟨_, rfl⟩
  have HN := Lib.hid (show n = s.length by rw [hn, bs_size])
  have hn2 : n ≤ 100000 := by have := HN.out; omega
  have hnz : (bs s).size = n := hn.symm
  clear hn
  obtain ⟨w1, hw1⟩ : ∃ w1, w1 = w.alloc (.cells #[.int .i64 0, .string ⟨#[]⟩, .slice none 0 0] 33) := ⟨_, rfl⟩
  have hx1 := heap_alloc_new w (.cells #[.int .i64 0, .string ⟨#[]⟩, .slice none 0 0] 33)
  rw [← hw1] at hx1
  have HX1 := Lib.hid hx1
  have B1 := Lib.hid (show Below w.heap.size w w1 by rw [hw1]; exact (Below.refl _ _).alloc (Nat.le_refl _) _)
  have HW1 := Lib.hid hw1
  clear hw1 hx1
  go_enter Tryz.func17, Tryz.ntmps17
  go_wp2_with fail
  rw [← HW1.out]
  go_loopw [4] (fun i' wr => ∃ (i : Nat), i' = .int .i64 i ∧ i ≤ n ∧ Hid (NoAny s sgs i) ∧ Hid (wr.heap[w.heap.size]? = some (.cells #[.int .i64 0, .string ⟨#[]⟩, .slice none 0 0] 33) ∧ Below w.heap.size w wr)) (fun i' _ => n - (intOf i').toNat)
  case atStart => exact ⟨0, rfl, by omega, Lib.hid (NoAny.zero _ _), Lib.hid ⟨HX1.out, B1.out⟩⟩
  case round =>
    obtain ⟨W0, rfl⟩ : ∃ W0, W0 = wr := ⟨_, rfl⟩
    obtain ⟨i, rfl, hi, hno, hst⟩ := hrel
    by_cases hlt : i < n
    · have hil : (i : Int) < n := by omega
      have h0i : (0 : Int) ≤ (i : Int) := by omega
      have hin : (i : Int) ≤ n := by omega
      have hw2 : IntKind.i64.wrap ((i : Int) + 1) = (i : Int) + 1 := IntWalk.i64_in ((i : Int) + 1) ⟨by omega, by omega⟩
      have hl1 : (i : Int) + 1 ≤ n := by omega
      have h0l : (0 : Int) ≤ (i : Int) + 1 := by omega
      have hpz : i < (bs s).size := by omega
      have hd1 := bs_take s i
      have hd2 := bs_drop s (i + 1)
      rw [hnz] at hd2
      obtain ⟨x, hx⟩ : ∃ x, s[i]? = some x := ⟨s[i]'(by have := HN.out; omega), List.getElem?_eq_getElem (by have := HN.out; omega)⟩
      have hgx : (bs s)[i]'hpz = x := (List.getElem?_eq_some_iff.1 hx).2
      obtain ⟨P, hP⟩ : ∃ P, P = s.take i := ⟨_, rfl⟩
      obtain ⟨D, hD⟩ : ∃ D, D = s.drop (i + 1) := ⟨_, rfl⟩
      rw [← hP] at hd1
      rw [← hD] at hd2
      have FA := Lib.hid (mk_ms W0 P D)
      have FB := Lib.hid (mk_sm W0 P D)
      obtain ⟨WA, hWA⟩ : ∃ WA, WA = ((W0.alloc (.cells #[.int .i64 0, .string (bs P), .slice (some ⟨W0.heap.size + 1, 0, none⟩) 1 1] 33)).alloc (.cells #[.string (bs D)] 9)).drew := ⟨_, rfl⟩
      obtain ⟨WB, hWB⟩ : ∃ WB, WB = ((W0.alloc (.cells #[.string (bs D)] 9)).alloc (.cells #[.int .i64 0, .string (bs P), .slice (some ⟨W0.heap.size, 0, none⟩) 1 1] 33)).drew := ⟨_, rfl⟩
      rw [← hWA] at FA
      rw [← hWB] at FB
      have HWA := Lib.hid hWA
      have HWB := Lib.hid hWB
      have HP := Lib.hid hP; have HD := Lib.hid hD; have HX := Lib.hid hx
      have HNO := Lib.hid hno.out
      have HST := Lib.hid hst.out
      clear hWA hWB hP hD hx hno hst
      by_cases hxs : sgs.contains x = true
      · have hc : x = 61 ∨ x = 33 ∨ x = 94 ∨ x = 64 := by
          simp only [sgs, List.contains_cons, List.contains_nil, Bool.or_false, Bool.or_eq_true, beq_iff_eq] at hxs
          exact hxs
        have OM := Lib.hid (one_math HNO.out HX.out hxs)
        clear hxs
        rcases hc with rfl | rfl | rfl | rfl
        · have hq1 : (((61 : UInt8).toNat : Int) == 61) = true := rfl
          have hq2 : (((61 : UInt8).toNat : Int) == 94) = false := rfl
          go_upto_region 4 with fail
          go_region
          all_goals
            first
              | (rw [← HWA.out]; have FM := FA.out; obtain ⟨mb, hmb⟩ : ∃ mb, mb = W0.heap.size := ⟨_, rfl⟩; obtain ⟨sb, hsb⟩ : ∃ sb, sb = W0.heap.size + 1 := ⟨_, rfl⟩; obtain ⟨W2, hW2⟩ : ∃ W2, W2 = WA := ⟨_, rfl⟩; rw [← hsb, ← hmb, ← hW2] at FM)
              | (rw [← HWB.out]; have FM := FB.out; obtain ⟨mb, hmb⟩ : ∃ mb, mb = W0.heap.size + 1 := ⟨_, rfl⟩; obtain ⟨sb, hsb⟩ : ∃ sb, sb = W0.heap.size := ⟨_, rfl⟩; obtain ⟨W2, hW2⟩ : ∃ W2, W2 = WB := ⟨_, rfl⟩; rw [← hmb, ← hsb, ← hW2] at FM)
            try rw [← hmb]
            rw [← hW2]
            have m0 := FM.m
            have q0 := Lib.cell_of_heap m0 0; have q1 := Lib.cell_of_heap m0 1; have q2 := Lib.cell_of_heap m0 2
            have f0 := Lib.frozen_of_heap m0 0; have f1 := Lib.frozen_of_heap m0 1; have f2 := Lib.frozen_of_heap m0 2
            simp at q0 q1 q2
            have T0 := mk_t0 FM HST.out
            have NE := FM.ne
            have HNE := Lib.hid (show ∀ p, some (⟨sb, 0, none⟩ : Addr) = some p → p.block ≠ mb from fun p e => by cases e; exact NE)
            have HT0 := Lib.hid T0
            clear T0 NE FM m0 hmb hsb hW2 HWA HWB FA FB HST
            go_upto_region 17 with fail
            have T := HT0.out.kind HNE.out 1
            obtain ⟨W3, hW3⟩ : ∃ W3, W3 = W2.setCell ⟨mb, 0, none⟩ (.int .i64 ((1 : Nat) : Int)) := ⟨_, rfl⟩
            rw [← hW3] at T
            obtain ⟨a, ha⟩ : ∃ a, a = some (⟨sb, 0, none⟩ : Addr) := ⟨_, rfl⟩
            obtain ⟨nv, hnv⟩ : ∃ nv, nv = 1 := ⟨_, rfl⟩
            obtain ⟨cv, hcv⟩ : ∃ cv, cv = 1 := ⟨_, rfl⟩
            have T' : MkT w W3 mb 1 P a nv cv [D] := by rw [ha, hnv, hcv]; exact T
            clear T ha hnv hcv
            have T := T'
            clear T'
            try rw [show (.int .i64 1 : Value) = .int .i64 ((1 : Nat) : Int) from rfl]
            try rw [← hW3]
            clear hW3
            obtain ⟨V, hV⟩ : ∃ V, V = onV s i := ⟨_, rfl⟩
            obtain ⟨k, hk⟩ : ∃ k, k = onK s i := ⟨_, rfl⟩
            have OMK := OM.out
            rw [← hV, ← hk, ← HP.out] at OMK
            have HVL : V.length ≤ 1000000 ∧ ∀ x ∈ V, x.length ≤ 1000000 := by rw [hV]; exact onV_le s i hl
            rw [show 1 = onK s i by unfold onK; rw [if_pos HX.out], ← hk, show [D] = onV s i by unfold onV; rw [HX.out, if_neg (by decide), if_neg (by rintro ⟨h, _⟩; revert h; decide), HD.out], ← hV] at T
            clear OM hV hk q0 q1 q2 f0 f1 f2
            have t0 := T.m
            have tz := T.z
            have tl := T.lt
            have q0 := Lib.cell_of_heap t0 0; have q1 := Lib.cell_of_heap t0 1; have q2 := Lib.cell_of_heap t0 2
            have f0 := Lib.frozen_of_heap t0 0; have f1 := Lib.frozen_of_heap t0 1; have f2 := Lib.frozen_of_heap t0 2
            simp at q0 q1 q2
            have CK := Lib.hid (rcheck13_any k P V _ W3.drew (Rd.of_sl (T.s.same (w' := W3.drew) (Nat.le_refl _) fun _ _ => rfl)) HVL.1 (by rw [HP.out]; have := hl; simp; omega) HVL.2)
            obtain ⟨r, hr⟩ : ∃ r, rOk k P V = r := ⟨_, rfl⟩
            rw [hr] at CK OMK
            have HOM := Lib.hid OMK
            have HT3 := Lib.hid T
            have FW := Lib.hid (fun (w3 : World) (b3 : Below W3.drew.heap.size W3.drew w3) => show w3.heap[mb]? = _ ∧ w3.heap[w.heap.size]? = _ from ⟨(b3.block mb tl).trans t0, (b3.block _ (show w.heap.size < W3.heap.size from by have := T.gt; omega)).trans tz⟩)
            clear OMK T t0 tz tl hr HVL
            go_region_with (first
              | (go_at_call 11; refine CK.out.mono ?_; rintro e w3 ⟨rfl, b3⟩; have HB3 := Lib.hid b3; obtain ⟨m3, z3⟩ := FW.out w3 b3; have q0 := Lib.cell_of_heap m3 0; have q1 := Lib.cell_of_heap m3 1; have q2 := Lib.cell_of_heap m3 2; have f0 := Lib.frozen_of_heap m3 0; have f1 := Lib.frozen_of_heap m3 1; have f2 := Lib.frozen_of_heap m3 2; have HW := Lib.hid (put3 w3 w.heap.size _ _ _ (.int .i64 (k : Int)) (.string (bs P)) (.slice a nv cv) _ z3); have r0 := Lib.cell_of_heap z3 0; have r1 := Lib.cell_of_heap z3 1; have r2 := Lib.cell_of_heap z3 2; have g0 := Lib.frozen_of_heap z3 0; have g1 := Lib.frozen_of_heap z3 1; have g2 := Lib.frozen_of_heap z3 2; simp at q0 q1 q2 r0 r1 r2; clear b3 m3 z3)
              | fail)
            all_goals
              go_wp2_with fail
              refine bodyPost_ret (results_one Tryz.results17 _ _ w.heap.size _ _ _ _ (.bool r) rfl rfl HW.out Tryz.underlying33 rfl (by kernel_rfl)) rfl ?_
              refine ⟨k, P, a, nv, cv, by rw [HOM.out.1], (((HT3.out.b.drew.trans (HB3.out.mono HT3.out.b.size)).setCell (p := ⟨w.heap.size, 0, none⟩) (Nat.le_refl _) _).setCell (p := ⟨w.heap.size, 1, none⟩) (Nat.le_refl _) _).setCell (p := ⟨w.heap.size, 2, none⟩) (Nat.le_refl _) _, fun h => ?_⟩
              have e := HOM.out.2 h
              rw [e]
              exact ⟨rfl, rfl, (sl_else (sl_else (sl_else ((HT3.out.s.same (w' := W3.drew) (Nat.le_refl _) fun _ _ => rfl).on HB3.out) _ _ (by simp only; omega)) _ _ (by simp only; omega)) _ _ (by simp only; omega)).mono (by omega)⟩
        · have hq1 : (((33 : UInt8).toNat : Int) == 61) = false := rfl
          have hq2 : (((33 : UInt8).toNat : Int) == 94) = false := rfl
          have hq3 : (((33 : UInt8).toNat : Int) == 64) = false := rfl
          have hq4 : (((33 : UInt8).toNat : Int) == 33) = true := rfl
          by_cases h61 : s[i + 1]? = some 61
          · have hlt2 := (List.getElem?_eq_some_iff.1 h61).1
            have hil2 : (i : Int) + 1 < n := by have := HN.out; omega
            have h0i2 : (0 : Int) ≤ (i : Int) + 1 := by omega
            have h0i3 : (0 : Int) ≤ (i : Int) + 2 := by omega
            have hl3 : (i : Int) + 2 ≤ n := by omega
            have hw3 : IntKind.i64.wrap ((i : Int) + 2) = (i : Int) + 2 := IntWalk.i64_in ((i : Int) + 2) ⟨by omega, by omega⟩
            have hpz2 : i + 1 < (bs s).size := by omega
            have hgx2 : (bs s)[i + 1]'hpz2 = 61 := (List.getElem?_eq_some_iff.1 h61).2
            have hd3 := bs_drop s (i + 2)
            rw [hnz] at hd3
            obtain ⟨D2, hD2⟩ : ∃ D2, D2 = s.drop (i + 2) := ⟨_, rfl⟩
            rw [← hD2] at hd3
            have HD2 := Lib.hid hD2
            have H61 := Lib.hid h61
            clear hD2 h61 hlt2
            go_upto_region 4 with fail
            go_region
            all_goals
              first
                | (rw [← HWA.out]; have FM := FA.out; obtain ⟨mb, hmb⟩ : ∃ mb, mb = W0.heap.size := ⟨_, rfl⟩; obtain ⟨sb, hsb⟩ : ∃ sb, sb = W0.heap.size + 1 := ⟨_, rfl⟩; obtain ⟨W2, hW2⟩ : ∃ W2, W2 = WA := ⟨_, rfl⟩; rw [← hsb, ← hmb, ← hW2] at FM)
                | (rw [← HWB.out]; have FM := FB.out; obtain ⟨mb, hmb⟩ : ∃ mb, mb = W0.heap.size + 1 := ⟨_, rfl⟩; obtain ⟨sb, hsb⟩ : ∃ sb, sb = W0.heap.size := ⟨_, rfl⟩; obtain ⟨W2, hW2⟩ : ∃ W2, W2 = WB := ⟨_, rfl⟩; rw [← hmb, ← hsb, ← hW2] at FM)
              try rw [← hmb]
              rw [← hW2]
              have m0 := FM.m
              have q0 := Lib.cell_of_heap m0 0; have q1 := Lib.cell_of_heap m0 1; have q2 := Lib.cell_of_heap m0 2
              have f0 := Lib.frozen_of_heap m0 0; have f1 := Lib.frozen_of_heap m0 1; have f2 := Lib.frozen_of_heap m0 2
              simp at q0 q1 q2
              have T0 := mk_t0 FM HST.out
              have NE := FM.ne
              have HNE := Lib.hid (show ∀ p, some (⟨sb, 0, none⟩ : Addr) = some p → p.block ≠ mb from fun p e => by cases e; exact NE)
              have HT0 := Lib.hid T0
              clear T0 NE FM m0 hmb hsb hW2 HWA HWB FA FB HST
              have T1 := HT0.out.kind HNE.out 2
              have l5 := Sl.lit (W2.setCell ⟨mb, 0, none⟩ (.int .i64 ((2 : Nat) : Int))) (W2.setCell ⟨mb, 0, none⟩ (.int .i64 ((2 : Nat) : Int))).heap.size 1 1 #[.string (bs D2)] 9 (Nat.le_refl _) (by decide) rfl
              have b5 : Below (W2.setCell ⟨mb, 0, none⟩ (.int .i64 ((2 : Nat) : Int))).heap.size (W2.setCell ⟨mb, 0, none⟩ (.int .i64 ((2 : Nat) : Int))) ((W2.setCell ⟨mb, 0, none⟩ (.int .i64 ((2 : Nat) : Int))).alloc (.cells #[.string (bs D2)] 9)) := (Below.refl _ _).alloc (Nat.le_refl _) _
              have m5 := (b5.block mb T1.lt).trans T1.m
              have T5 : MkT w _ mb 2 P _ 1 1 [D2] := T1.vals b5 l5 rfl
              rw [show (W2.setCell ⟨mb, 0, none⟩ (.int .i64 ((2 : Nat) : Int))).heap.size = W2.heap.size by simp [World.setCell]] at T5
              rw [show (.int .i64 ((2 : Nat) : Int) : Value) = .int .i64 2 from rfl] at T5 m5
              have HT5 := Lib.hid T5
              clear T1 l5 b5 T5
              have p0 := Lib.cell_of_heap m5 0; have p1 := Lib.cell_of_heap m5 1; have p2 := Lib.cell_of_heap m5 2
              have e0 := Lib.frozen_of_heap m5 0; have e1 := Lib.frozen_of_heap m5 1; have e2 := Lib.frozen_of_heap m5 2
              simp at p0 p1 p2
              clear m5
              go_upto_region 17 with fail
              have T := HT5.out
              obtain ⟨W3, hW3⟩ : ∃ W3, W3 = ((W2.setCell ⟨mb, 0, none⟩ (.int .i64 2)).alloc (.cells #[.string (bs D2)] 9)).setCell ⟨mb, 2, none⟩ (.slice (some ⟨W2.heap.size, 0, none⟩) 1 1) := ⟨_, rfl⟩
              rw [← hW3] at T
              rw [← hW3]
              obtain ⟨a, ha⟩ : ∃ a, a = some (⟨W2.heap.size, 0, none⟩ : Addr) := ⟨_, rfl⟩
              obtain ⟨nv, hnv⟩ : ∃ nv, nv = 1 := ⟨_, rfl⟩
              obtain ⟨cv, hcv⟩ : ∃ cv, cv = 1 := ⟨_, rfl⟩
              have T' : MkT w W3 mb 2 P a nv cv [D2] := by rw [ha, hnv, hcv]; exact T
              clear T ha hnv hcv hW3 HT5
              have T := T'
              clear T'
              obtain ⟨V, hV⟩ : ∃ V, V = onV s i := ⟨_, rfl⟩
              obtain ⟨k, hk⟩ : ∃ k, k = onK s i := ⟨_, rfl⟩
              have OMK := OM.out
              rw [← hV, ← hk, ← HP.out] at OMK
              have HVL : V.length ≤ 1000000 ∧ ∀ x ∈ V, x.length ≤ 1000000 := by rw [hV]; exact onV_le s i hl
              rw [show 2 = onK s i by unfold onK; rw [HX.out, if_neg (by decide), if_neg (by decide), if_neg (by decide), if_pos H61.out], ← hk, show [D2] = onV s i by unfold onV; rw [HX.out, if_neg (by decide), if_pos ⟨rfl, H61.out⟩, HD2.out], ← hV] at T
              clear OM hV hk q0 q1 q2 f0 f1 f2 p0 p1 p2 e0 e1 e2
              have t0 := T.m
              have tz := T.z
              have tl := T.lt
              have q0 := Lib.cell_of_heap t0 0; have q1 := Lib.cell_of_heap t0 1; have q2 := Lib.cell_of_heap t0 2
              have f0 := Lib.frozen_of_heap t0 0; have f1 := Lib.frozen_of_heap t0 1; have f2 := Lib.frozen_of_heap t0 2
              simp at q0 q1 q2
              have CK := Lib.hid (rcheck13_any k P V _ W3.drew (Rd.of_sl (T.s.same (w' := W3.drew) (Nat.le_refl _) fun _ _ => rfl)) HVL.1 (by rw [HP.out]; have := hl; simp; omega) HVL.2)
              obtain ⟨r, hr⟩ : ∃ r, rOk k P V = r := ⟨_, rfl⟩
              rw [hr] at CK OMK
              have HOM := Lib.hid OMK
              have HT3 := Lib.hid T
              have FW := Lib.hid (fun (w3 : World) (b3 : Below W3.drew.heap.size W3.drew w3) => show w3.heap[mb]? = _ ∧ w3.heap[w.heap.size]? = _ from ⟨(b3.block mb tl).trans t0, (b3.block _ (show w.heap.size < W3.heap.size from by have := T.gt; omega)).trans tz⟩)
              clear OMK T t0 tz tl hr HVL
              go_region_with (first
                | (go_at_call 11; refine CK.out.mono ?_; rintro e w3 ⟨rfl, b3⟩; have HB3 := Lib.hid b3; obtain ⟨m3, z3⟩ := FW.out w3 b3; have q0 := Lib.cell_of_heap m3 0; have q1 := Lib.cell_of_heap m3 1; have q2 := Lib.cell_of_heap m3 2; have f0 := Lib.frozen_of_heap m3 0; have f1 := Lib.frozen_of_heap m3 1; have f2 := Lib.frozen_of_heap m3 2; have HW := Lib.hid (put3 w3 w.heap.size _ _ _ (.int .i64 (k : Int)) (.string (bs P)) (.slice a nv cv) _ z3); have r0 := Lib.cell_of_heap z3 0; have r1 := Lib.cell_of_heap z3 1; have r2 := Lib.cell_of_heap z3 2; have g0 := Lib.frozen_of_heap z3 0; have g1 := Lib.frozen_of_heap z3 1; have g2 := Lib.frozen_of_heap z3 2; simp at q0 q1 q2 r0 r1 r2; clear b3 m3 z3)
                | fail)
              all_goals
                go_wp2_with fail
                refine bodyPost_ret (results_one Tryz.results17 _ _ w.heap.size _ _ _ _ (.bool r) rfl rfl HW.out Tryz.underlying33 rfl (by kernel_rfl)) rfl ?_
                refine ⟨k, P, a, nv, cv, by rw [HOM.out.1], (((HT3.out.b.drew.trans (HB3.out.mono HT3.out.b.size)).setCell (p := ⟨w.heap.size, 0, none⟩) (Nat.le_refl _) _).setCell (p := ⟨w.heap.size, 1, none⟩) (Nat.le_refl _) _).setCell (p := ⟨w.heap.size, 2, none⟩) (Nat.le_refl _) _, fun h => ?_⟩
                have e := HOM.out.2 h
                rw [e]
                exact ⟨rfl, rfl, (sl_else (sl_else (sl_else ((HT3.out.s.same (w' := W3.drew) (Nat.le_refl _) fun _ _ => rfl).on HB3.out) _ _ (by simp only; omega)) _ _ (by simp only; omega)) _ _ (by simp only; omega)).mono (by omega)⟩
          · by_cases hil2 : (i : Int) + 1 < n
            · have h0i2 : (0 : Int) ≤ (i : Int) + 1 := by omega
              have hpz2 : i + 1 < (bs s).size := by omega
              have hne : (((bs s)[i + 1]'hpz2).toNat : Int) ≠ 61 := by
                intro e
                apply h61
                rw [List.getElem?_eq_some_iff]
                refine ⟨by have := HN.out; omega, ?_⟩
                have h2 : (bs s)[i + 1]'hpz2 = 61 := UInt8.toNat_inj.1 (by show _ = 61; omega)
                exact h2
              have hq61 : ((((bs s)[i + 1]'hpz2).toNat : Int) == 61) = false := beq_eq_false_iff_ne.2 hne
              have H61 := Lib.hid h61
              clear h61
              go_upto_region 4 with fail
              go_region
              all_goals
                first
                  | (rw [← HWA.out]; have FM := FA.out; obtain ⟨mb, hmb⟩ : ∃ mb, mb = W0.heap.size := ⟨_, rfl⟩; obtain ⟨sb, hsb⟩ : ∃ sb, sb = W0.heap.size + 1 := ⟨_, rfl⟩; obtain ⟨W2, hW2⟩ : ∃ W2, W2 = WA := ⟨_, rfl⟩; rw [← hsb, ← hmb, ← hW2] at FM)
                  | (rw [← HWB.out]; have FM := FB.out; obtain ⟨mb, hmb⟩ : ∃ mb, mb = W0.heap.size + 1 := ⟨_, rfl⟩; obtain ⟨sb, hsb⟩ : ∃ sb, sb = W0.heap.size := ⟨_, rfl⟩; obtain ⟨W2, hW2⟩ : ∃ W2, W2 = WB := ⟨_, rfl⟩; rw [← hmb, ← hsb, ← hW2] at FM)
                try rw [← hmb]
                rw [← hW2]
                have m0 := FM.m
                have q0 := Lib.cell_of_heap m0 0; have q1 := Lib.cell_of_heap m0 1; have q2 := Lib.cell_of_heap m0 2
                have f0 := Lib.frozen_of_heap m0 0; have f1 := Lib.frozen_of_heap m0 1; have f2 := Lib.frozen_of_heap m0 2
                simp at q0 q1 q2
                have T0 := mk_t0 FM HST.out
                have NE := FM.ne
                have HNE := Lib.hid (show ∀ p, some (⟨sb, 0, none⟩ : Addr) = some p → p.block ≠ mb from fun p e => by cases e; exact NE)
                have HT0 := Lib.hid T0
                clear T0 NE FM m0 hmb hsb hW2 HWA HWB FA FB HST
                go_upto_region 17 with fail
                have T := HT0.out
                obtain ⟨W3, hW3⟩ : ∃ W3, W3 = W2 := ⟨_, rfl⟩
                rw [← hW3] at T
                rw [← hW3]
                obtain ⟨a, ha⟩ : ∃ a, a = some (⟨sb, 0, none⟩ : Addr) := ⟨_, rfl⟩
                obtain ⟨nv, hnv⟩ : ∃ nv, nv = 1 := ⟨_, rfl⟩
                obtain ⟨cv, hcv⟩ : ∃ cv, cv = 1 := ⟨_, rfl⟩
                have T' : MkT w W3 mb 0 P a nv cv [D] := by rw [ha, hnv, hcv]; exact T
                clear T ha hnv hcv hW3
                have T := T'
                clear T'
                obtain ⟨V, hV⟩ : ∃ V, V = onV s i := ⟨_, rfl⟩
                obtain ⟨k, hk⟩ : ∃ k, k = onK s i := ⟨_, rfl⟩
                have OMK := OM.out
                rw [← hV, ← hk, ← HP.out] at OMK
                have HVL : V.length ≤ 1000000 ∧ ∀ x ∈ V, x.length ≤ 1000000 := by rw [hV]; exact onV_le s i hl
                rw [show 0 = onK s i by unfold onK; rw [HX.out, if_neg (by decide), if_neg (by decide), if_neg (by decide), if_neg H61.out], ← hk, show [D] = onV s i by unfold onV; rw [HX.out, if_neg (by decide), if_neg (by rintro ⟨_, h⟩; exact H61.out h), HD.out], ← hV] at T
                clear OM hV hk q0 q1 q2 f0 f1 f2
                have t0 := T.m
                have tz := T.z
                have tl := T.lt
                have q0 := Lib.cell_of_heap t0 0; have q1 := Lib.cell_of_heap t0 1; have q2 := Lib.cell_of_heap t0 2
                have f0 := Lib.frozen_of_heap t0 0; have f1 := Lib.frozen_of_heap t0 1; have f2 := Lib.frozen_of_heap t0 2
                simp at q0 q1 q2
                have CK := Lib.hid (rcheck13_any k P V _ W3.drew (Rd.of_sl (T.s.same (w' := W3.drew) (Nat.le_refl _) fun _ _ => rfl)) HVL.1 (by rw [HP.out]; have := hl; simp; omega) HVL.2)
                obtain ⟨r, hr⟩ : ∃ r, rOk k P V = r := ⟨_, rfl⟩
                rw [hr] at CK OMK
                have HOM := Lib.hid OMK
                have HT3 := Lib.hid T
                have FW := Lib.hid (fun (w3 : World) (b3 : Below W3.drew.heap.size W3.drew w3) => show w3.heap[mb]? = _ ∧ w3.heap[w.heap.size]? = _ from ⟨(b3.block mb tl).trans t0, (b3.block _ (show w.heap.size < W3.heap.size from by have := T.gt; omega)).trans tz⟩)
                clear OMK T t0 tz tl hr HVL
                go_region_with (first
                  | (go_at_call 11; refine CK.out.mono ?_; rintro e w3 ⟨rfl, b3⟩; have HB3 := Lib.hid b3; obtain ⟨m3, z3⟩ := FW.out w3 b3; have q0 := Lib.cell_of_heap m3 0; have q1 := Lib.cell_of_heap m3 1; have q2 := Lib.cell_of_heap m3 2; have f0 := Lib.frozen_of_heap m3 0; have f1 := Lib.frozen_of_heap m3 1; have f2 := Lib.frozen_of_heap m3 2; have HW := Lib.hid (put3 w3 w.heap.size _ _ _ (.int .i64 (k : Int)) (.string (bs P)) (.slice a nv cv) _ z3); have r0 := Lib.cell_of_heap z3 0; have r1 := Lib.cell_of_heap z3 1; have r2 := Lib.cell_of_heap z3 2; have g0 := Lib.frozen_of_heap z3 0; have g1 := Lib.frozen_of_heap z3 1; have g2 := Lib.frozen_of_heap z3 2; simp at q0 q1 q2 r0 r1 r2; clear b3 m3 z3)
                  | fail)
                all_goals
                  go_wp2_with fail
                  refine bodyPost_ret (results_one Tryz.results17 _ _ w.heap.size _ _ _ _ (.bool r) rfl rfl HW.out Tryz.underlying33 rfl (by kernel_rfl)) rfl ?_
                  refine ⟨k, P, a, nv, cv, by rw [HOM.out.1], (((HT3.out.b.drew.trans (HB3.out.mono HT3.out.b.size)).setCell (p := ⟨w.heap.size, 0, none⟩) (Nat.le_refl _) _).setCell (p := ⟨w.heap.size, 1, none⟩) (Nat.le_refl _) _).setCell (p := ⟨w.heap.size, 2, none⟩) (Nat.le_refl _) _, fun h => ?_⟩
                  have e := HOM.out.2 h
                  rw [e]
                  exact ⟨rfl, rfl, (sl_else (sl_else (sl_else ((HT3.out.s.same (w' := W3.drew) (Nat.le_refl _) fun _ _ => rfl).on HB3.out) _ _ (by simp only; omega)) _ _ (by simp only; omega)) _ _ (by simp only; omega)).mono (by omega)⟩
            · have H61 := Lib.hid h61
              clear h61
              go_upto_region 4 with fail
              go_region
              all_goals
                first
                  | (rw [← HWA.out]; have FM := FA.out; obtain ⟨mb, hmb⟩ : ∃ mb, mb = W0.heap.size := ⟨_, rfl⟩; obtain ⟨sb, hsb⟩ : ∃ sb, sb = W0.heap.size + 1 := ⟨_, rfl⟩; obtain ⟨W2, hW2⟩ : ∃ W2, W2 = WA := ⟨_, rfl⟩; rw [← hsb, ← hmb, ← hW2] at FM)
                  | (rw [← HWB.out]; have FM := FB.out; obtain ⟨mb, hmb⟩ : ∃ mb, mb = W0.heap.size + 1 := ⟨_, rfl⟩; obtain ⟨sb, hsb⟩ : ∃ sb, sb = W0.heap.size := ⟨_, rfl⟩; obtain ⟨W2, hW2⟩ : ∃ W2, W2 = WB := ⟨_, rfl⟩; rw [← hmb, ← hsb, ← hW2] at FM)
                try rw [← hmb]
                rw [← hW2]
                have m0 := FM.m
                have q0 := Lib.cell_of_heap m0 0; have q1 := Lib.cell_of_heap m0 1; have q2 := Lib.cell_of_heap m0 2
                have f0 := Lib.frozen_of_heap m0 0; have f1 := Lib.frozen_of_heap m0 1; have f2 := Lib.frozen_of_heap m0 2
                simp at q0 q1 q2
                have T0 := mk_t0 FM HST.out
                have NE := FM.ne
                have HNE := Lib.hid (show ∀ p, some (⟨sb, 0, none⟩ : Addr) = some p → p.block ≠ mb from fun p e => by cases e; exact NE)
                have HT0 := Lib.hid T0
                clear T0 NE FM m0 hmb hsb hW2 HWA HWB FA FB HST
                go_upto_region 17 with fail
                have T := HT0.out
                obtain ⟨W3, hW3⟩ : ∃ W3, W3 = W2 := ⟨_, rfl⟩
                rw [← hW3] at T
                rw [← hW3]
                obtain ⟨a, ha⟩ : ∃ a, a = some (⟨sb, 0, none⟩ : Addr) := ⟨_, rfl⟩
                obtain ⟨nv, hnv⟩ : ∃ nv, nv = 1 := ⟨_, rfl⟩
                obtain ⟨cv, hcv⟩ : ∃ cv, cv = 1 := ⟨_, rfl⟩
                have T' : MkT w W3 mb 0 P a nv cv [D] := by rw [ha, hnv, hcv]; exact T
                clear T ha hnv hcv hW3
                have T := T'
                clear T'
                obtain ⟨V, hV⟩ : ∃ V, V = onV s i := ⟨_, rfl⟩
                obtain ⟨k, hk⟩ : ∃ k, k = onK s i := ⟨_, rfl⟩
                have OMK := OM.out
                rw [← hV, ← hk, ← HP.out] at OMK
                have HVL : V.length ≤ 1000000 ∧ ∀ x ∈ V, x.length ≤ 1000000 := by rw [hV]; exact onV_le s i hl
                rw [show 0 = onK s i by unfold onK; rw [HX.out, if_neg (by decide), if_neg (by decide), if_neg (by decide), if_neg H61.out], ← hk, show [D] = onV s i by unfold onV; rw [HX.out, if_neg (by decide), if_neg (by rintro ⟨_, h⟩; exact H61.out h), HD.out], ← hV] at T
                clear OM hV hk q0 q1 q2 f0 f1 f2
                have t0 := T.m
                have tz := T.z
                have tl := T.lt
                have q0 := Lib.cell_of_heap t0 0; have q1 := Lib.cell_of_heap t0 1; have q2 := Lib.cell_of_heap t0 2
                have f0 := Lib.frozen_of_heap t0 0; have f1 := Lib.frozen_of_heap t0 1; have f2 := Lib.frozen_of_heap t0 2
                simp at q0 q1 q2
                have CK := Lib.hid (rcheck13_any k P V _ W3.drew (Rd.of_sl (T.s.same (w' := W3.drew) (Nat.le_refl _) fun _ _ => rfl)) HVL.1 (by rw [HP.out]; have := hl; simp; omega) HVL.2)
                obtain ⟨r, hr⟩ : ∃ r, rOk k P V = r := ⟨_, rfl⟩
                rw [hr] at CK OMK
                have HOM := Lib.hid OMK
                have HT3 := Lib.hid T
                have FW := Lib.hid (fun (w3 : World) (b3 : Below W3.drew.heap.size W3.drew w3) => show w3.heap[mb]? = _ ∧ w3.heap[w.heap.size]? = _ from ⟨(b3.block mb tl).trans t0, (b3.block _ (show w.heap.size < W3.heap.size from by have := T.gt; omega)).trans tz⟩)
                clear OMK T t0 tz tl hr HVL
                go_region_with (first
                  | (go_at_call 11; refine CK.out.mono ?_; rintro e w3 ⟨rfl, b3⟩; have HB3 := Lib.hid b3; obtain ⟨m3, z3⟩ := FW.out w3 b3; have q0 := Lib.cell_of_heap m3 0; have q1 := Lib.cell_of_heap m3 1; have q2 := Lib.cell_of_heap m3 2; have f0 := Lib.frozen_of_heap m3 0; have f1 := Lib.frozen_of_heap m3 1; have f2 := Lib.frozen_of_heap m3 2; have HW := Lib.hid (put3 w3 w.heap.size _ _ _ (.int .i64 (k : Int)) (.string (bs P)) (.slice a nv cv) _ z3); have r0 := Lib.cell_of_heap z3 0; have r1 := Lib.cell_of_heap z3 1; have r2 := Lib.cell_of_heap z3 2; have g0 := Lib.frozen_of_heap z3 0; have g1 := Lib.frozen_of_heap z3 1; have g2 := Lib.frozen_of_heap z3 2; simp at q0 q1 q2 r0 r1 r2; clear b3 m3 z3)
                  | fail)
                all_goals
                  go_wp2_with fail
                  refine bodyPost_ret (results_one Tryz.results17 _ _ w.heap.size _ _ _ _ (.bool r) rfl rfl HW.out Tryz.underlying33 rfl (by kernel_rfl)) rfl ?_
                  refine ⟨k, P, a, nv, cv, by rw [HOM.out.1], (((HT3.out.b.drew.trans (HB3.out.mono HT3.out.b.size)).setCell (p := ⟨w.heap.size, 0, none⟩) (Nat.le_refl _) _).setCell (p := ⟨w.heap.size, 1, none⟩) (Nat.le_refl _) _).setCell (p := ⟨w.heap.size, 2, none⟩) (Nat.le_refl _) _, fun h => ?_⟩
                  have e := HOM.out.2 h
                  rw [e]
                  exact ⟨rfl, rfl, (sl_else (sl_else (sl_else ((HT3.out.s.same (w' := W3.drew) (Nat.le_refl _) fun _ _ => rfl).on HB3.out) _ _ (by simp only; omega)) _ _ (by simp only; omega)) _ _ (by simp only; omega)).mono (by omega)⟩
        · have hq1 : (((94 : UInt8).toNat : Int) == 61) = false := rfl
          have hq2 : (((94 : UInt8).toNat : Int) == 94) = true := rfl
          go_upto_region 4 with fail
          go_region
          all_goals
            first
              | (rw [← HWA.out]; have FM := FA.out; obtain ⟨mb, hmb⟩ : ∃ mb, mb = W0.heap.size := ⟨_, rfl⟩; obtain ⟨sb, hsb⟩ : ∃ sb, sb = W0.heap.size + 1 := ⟨_, rfl⟩; obtain ⟨W2, hW2⟩ : ∃ W2, W2 = WA := ⟨_, rfl⟩; rw [← hsb, ← hmb, ← hW2] at FM)
              | (rw [← HWB.out]; have FM := FB.out; obtain ⟨mb, hmb⟩ : ∃ mb, mb = W0.heap.size + 1 := ⟨_, rfl⟩; obtain ⟨sb, hsb⟩ : ∃ sb, sb = W0.heap.size := ⟨_, rfl⟩; obtain ⟨W2, hW2⟩ : ∃ W2, W2 = WB := ⟨_, rfl⟩; rw [← hmb, ← hsb, ← hW2] at FM)
            try rw [← hmb]
            rw [← hW2]
            have m0 := FM.m
            have q0 := Lib.cell_of_heap m0 0; have q1 := Lib.cell_of_heap m0 1; have q2 := Lib.cell_of_heap m0 2
            have f0 := Lib.frozen_of_heap m0 0; have f1 := Lib.frozen_of_heap m0 1; have f2 := Lib.frozen_of_heap m0 2
            simp at q0 q1 q2
            have T0 := mk_t0 FM HST.out
            have NE := FM.ne
            have HNE := Lib.hid (show ∀ p, some (⟨sb, 0, none⟩ : Addr) = some p → p.block ≠ mb from fun p e => by cases e; exact NE)
            have HT0 := Lib.hid T0
            clear T0 NE FM m0 hmb hsb hW2 HWA HWB FA FB HST
            go_upto_region 17 with fail
            have T := HT0.out.kind HNE.out 3
            obtain ⟨W3, hW3⟩ : ∃ W3, W3 = W2.setCell ⟨mb, 0, none⟩ (.int .i64 ((3 : Nat) : Int)) := ⟨_, rfl⟩
            rw [← hW3] at T
            obtain ⟨a, ha⟩ : ∃ a, a = some (⟨sb, 0, none⟩ : Addr) := ⟨_, rfl⟩
            obtain ⟨nv, hnv⟩ : ∃ nv, nv = 1 := ⟨_, rfl⟩
            obtain ⟨cv, hcv⟩ : ∃ cv, cv = 1 := ⟨_, rfl⟩
            have T' : MkT w W3 mb 3 P a nv cv [D] := by rw [ha, hnv, hcv]; exact T
            clear T ha hnv hcv
            have T := T'
            clear T'
            try rw [show (.int .i64 3 : Value) = .int .i64 ((3 : Nat) : Int) from rfl]
            try rw [← hW3]
            clear hW3
            obtain ⟨V, hV⟩ : ∃ V, V = onV s i := ⟨_, rfl⟩
            obtain ⟨k, hk⟩ : ∃ k, k = onK s i := ⟨_, rfl⟩
            have OMK := OM.out
            rw [← hV, ← hk, ← HP.out] at OMK
            have HVL : V.length ≤ 1000000 ∧ ∀ x ∈ V, x.length ≤ 1000000 := by rw [hV]; exact onV_le s i hl
            rw [show 3 = onK s i by unfold onK; rw [HX.out, if_neg (by decide), if_pos rfl], ← hk, show [D] = onV s i by unfold onV; rw [HX.out, if_neg (by decide), if_neg (by rintro ⟨h, _⟩; revert h; decide), HD.out], ← hV] at T
            clear OM hV hk q0 q1 q2 f0 f1 f2
            have t0 := T.m
            have tz := T.z
            have tl := T.lt
            have q0 := Lib.cell_of_heap t0 0; have q1 := Lib.cell_of_heap t0 1; have q2 := Lib.cell_of_heap t0 2
            have f0 := Lib.frozen_of_heap t0 0; have f1 := Lib.frozen_of_heap t0 1; have f2 := Lib.frozen_of_heap t0 2
            simp at q0 q1 q2
            have CK := Lib.hid (rcheck13_any k P V _ W3.drew (Rd.of_sl (T.s.same (w' := W3.drew) (Nat.le_refl _) fun _ _ => rfl)) HVL.1 (by rw [HP.out]; have := hl; simp; omega) HVL.2)
            obtain ⟨r, hr⟩ : ∃ r, rOk k P V = r := ⟨_, rfl⟩
            rw [hr] at CK OMK
            have HOM := Lib.hid OMK
            have HT3 := Lib.hid T
            have FW := Lib.hid (fun (w3 : World) (b3 : Below W3.drew.heap.size W3.drew w3) => show w3.heap[mb]? = _ ∧ w3.heap[w.heap.size]? = _ from ⟨(b3.block mb tl).trans t0, (b3.block _ (show w.heap.size < W3.heap.size from by have := T.gt; omega)).trans tz⟩)
            clear OMK T t0 tz tl hr HVL
            go_region_with (first
              | (go_at_call 11; refine CK.out.mono ?_; rintro e w3 ⟨rfl, b3⟩; have HB3 := Lib.hid b3; obtain ⟨m3, z3⟩ := FW.out w3 b3; have q0 := Lib.cell_of_heap m3 0; have q1 := Lib.cell_of_heap m3 1; have q2 := Lib.cell_of_heap m3 2; have f0 := Lib.frozen_of_heap m3 0; have f1 := Lib.frozen_of_heap m3 1; have f2 := Lib.frozen_of_heap m3 2; have HW := Lib.hid (put3 w3 w.heap.size _ _ _ (.int .i64 (k : Int)) (.string (bs P)) (.slice a nv cv) _ z3); have r0 := Lib.cell_of_heap z3 0; have r1 := Lib.cell_of_heap z3 1; have r2 := Lib.cell_of_heap z3 2; have g0 := Lib.frozen_of_heap z3 0; have g1 := Lib.frozen_of_heap z3 1; have g2 := Lib.frozen_of_heap z3 2; simp at q0 q1 q2 r0 r1 r2; clear b3 m3 z3)
              | fail)
            all_goals
              go_wp2_with fail
              refine bodyPost_ret (results_one Tryz.results17 _ _ w.heap.size _ _ _ _ (.bool r) rfl rfl HW.out Tryz.underlying33 rfl (by kernel_rfl)) rfl ?_
              refine ⟨k, P, a, nv, cv, by rw [HOM.out.1], (((HT3.out.b.drew.trans (HB3.out.mono HT3.out.b.size)).setCell (p := ⟨w.heap.size, 0, none⟩) (Nat.le_refl _) _).setCell (p := ⟨w.heap.size, 1, none⟩) (Nat.le_refl _) _).setCell (p := ⟨w.heap.size, 2, none⟩) (Nat.le_refl _) _, fun h => ?_⟩
              have e := HOM.out.2 h
              rw [e]
              exact ⟨rfl, rfl, (sl_else (sl_else (sl_else ((HT3.out.s.same (w' := W3.drew) (Nat.le_refl _) fun _ _ => rfl).on HB3.out) _ _ (by simp only; omega)) _ _ (by simp only; omega)) _ _ (by simp only; omega)).mono (by omega)⟩
        · have hq1 : (((64 : UInt8).toNat : Int) == 61) = false := rfl
          have hq2 : (((64 : UInt8).toNat : Int) == 94) = false := rfl
          have hq3 : (((64 : UInt8).toNat : Int) == 64) = true := rfl
          go_upto_region 4 with fail
          go_region
          all_goals
            first
              | (rw [← HWA.out]; have FM := FA.out; obtain ⟨mb, hmb⟩ : ∃ mb, mb = W0.heap.size := ⟨_, rfl⟩; obtain ⟨sb, hsb⟩ : ∃ sb, sb = W0.heap.size + 1 := ⟨_, rfl⟩; obtain ⟨W2, hW2⟩ : ∃ W2, W2 = WA := ⟨_, rfl⟩; rw [← hsb, ← hmb, ← hW2] at FM)
              | (rw [← HWB.out]; have FM := FB.out; obtain ⟨mb, hmb⟩ : ∃ mb, mb = W0.heap.size + 1 := ⟨_, rfl⟩; obtain ⟨sb, hsb⟩ : ∃ sb, sb = W0.heap.size := ⟨_, rfl⟩; obtain ⟨W2, hW2⟩ : ∃ W2, W2 = WB := ⟨_, rfl⟩; rw [← hmb, ← hsb, ← hW2] at FM)
            try rw [← hmb]
            rw [← hW2]
            have m0 := FM.m
            have q0 := Lib.cell_of_heap m0 0; have q1 := Lib.cell_of_heap m0 1; have q2 := Lib.cell_of_heap m0 2
            have f0 := Lib.frozen_of_heap m0 0; have f1 := Lib.frozen_of_heap m0 1; have f2 := Lib.frozen_of_heap m0 2
            simp at q0 q1 q2
            have T0 := mk_t0 FM HST.out
            have NE := FM.ne
            have HNE := Lib.hid (show ∀ p, some (⟨sb, 0, none⟩ : Addr) = some p → p.block ≠ mb from fun p e => by cases e; exact NE)
            have HT0 := Lib.hid T0
            clear T0 NE FM m0 hmb hsb hW2 HWA HWB FA FB HST
            have T1 := HT0.out.kind HNE.out 4
            obtain ⟨WK, hWK⟩ : ∃ WK, WK = W2.setCell ⟨mb, 0, none⟩ (.int .i64 ((4 : Nat) : Int)) := ⟨_, rfl⟩
            rw [← hWK] at T1
            have HWK := Lib.hid hWK
            have CU := rcut13_any D 124 WK (by rw [HD.out]; simp; omega)
            rw [show ((124 : UInt8).toNat : Int) = 124 from rfl] at CU
            have HCU := Lib.hid CU
            have HT1 := Lib.hid T1
            clear T1 hWK CU
            go_wp2_with fail
            try rw [show (.int .i64 4 : Value) = .int .i64 ((4 : Nat) : Int) from rfl]
            rw [← HWK.out]
            refine HCU.out.mono ?_
            rintro e w5 ⟨v, rfl, s5, b5⟩
            obtain ⟨a, cv, rfl⟩ := s5.slice
            have m5 := (b5.block mb HT1.out.lt).trans HT1.out.m
            have T5 := HT1.out.vals b5 s5 rfl
            obtain ⟨nv, hnv⟩ : ∃ nv, nv = (parts 124 D).length := ⟨_, rfl⟩
            rw [← hnv] at T5
            rw [← hnv]
            have HT5 := Lib.hid T5
            clear q0 q1 q2 f0 f1 f2
            have q0 := Lib.cell_of_heap m5 0; have q1 := Lib.cell_of_heap m5 1; have q2 := Lib.cell_of_heap m5 2
            have f0 := Lib.frozen_of_heap m5 0; have f1 := Lib.frozen_of_heap m5 1; have f2 := Lib.frozen_of_heap m5 2
            simp at q0 q1 q2
            clear T5 hnv m5 b5 s5 HCU HT1 HWK
            go_upto_region 17 with fail
            have T := HT5.out
            obtain ⟨W3, hW3⟩ : ∃ W3, W3 = w5.setCell ⟨mb, 2, none⟩ (.slice a nv cv) := ⟨_, rfl⟩
            rw [← hW3] at T
            rw [← hW3]
            clear hW3 HT5
            obtain ⟨V, hV⟩ : ∃ V, V = onV s i := ⟨_, rfl⟩
            obtain ⟨k, hk⟩ : ∃ k, k = onK s i := ⟨_, rfl⟩
            have OMK := OM.out
            rw [← hV, ← hk, ← HP.out] at OMK
            have HVL : V.length ≤ 1000000 ∧ ∀ x ∈ V, x.length ≤ 1000000 := by rw [hV]; exact onV_le s i hl
            rw [show 4 = onK s i by unfold onK; rw [HX.out, if_neg (by decide), if_neg (by decide), if_pos rfl], ← hk, show parts 124 D = onV s i by unfold onV; rw [if_pos HX.out, HD.out], ← hV] at T
            clear OM hV hk q0 q1 q2 f0 f1 f2
            have t0 := T.m
            have tz := T.z
            have tl := T.lt
            have q0 := Lib.cell_of_heap t0 0; have q1 := Lib.cell_of_heap t0 1; have q2 := Lib.cell_of_heap t0 2
            have f0 := Lib.frozen_of_heap t0 0; have f1 := Lib.frozen_of_heap t0 1; have f2 := Lib.frozen_of_heap t0 2
            simp at q0 q1 q2
            have CK := Lib.hid (rcheck13_any k P V _ W3.drew (Rd.of_sl (T.s.same (w' := W3.drew) (Nat.le_refl _) fun _ _ => rfl)) HVL.1 (by rw [HP.out]; have := hl; simp; omega) HVL.2)
            obtain ⟨r, hr⟩ : ∃ r, rOk k P V = r := ⟨_, rfl⟩
            rw [hr] at CK OMK
            have HOM := Lib.hid OMK
            have HT3 := Lib.hid T
            have FW := Lib.hid (fun (w3 : World) (b3 : Below W3.drew.heap.size W3.drew w3) => show w3.heap[mb]? = _ ∧ w3.heap[w.heap.size]? = _ from ⟨(b3.block mb tl).trans t0, (b3.block _ (show w.heap.size < W3.heap.size from by have := T.gt; omega)).trans tz⟩)
            clear OMK T t0 tz tl hr HVL
            go_region_with (first
              | (go_at_call 11; refine CK.out.mono ?_; rintro e w3 ⟨rfl, b3⟩; have HB3 := Lib.hid b3; obtain ⟨m3, z3⟩ := FW.out w3 b3; have q0 := Lib.cell_of_heap m3 0; have q1 := Lib.cell_of_heap m3 1; have q2 := Lib.cell_of_heap m3 2; have f0 := Lib.frozen_of_heap m3 0; have f1 := Lib.frozen_of_heap m3 1; have f2 := Lib.frozen_of_heap m3 2; have HW := Lib.hid (put3 w3 w.heap.size _ _ _ (.int .i64 (k : Int)) (.string (bs P)) (.slice a nv cv) _ z3); have r0 := Lib.cell_of_heap z3 0; have r1 := Lib.cell_of_heap z3 1; have r2 := Lib.cell_of_heap z3 2; have g0 := Lib.frozen_of_heap z3 0; have g1 := Lib.frozen_of_heap z3 1; have g2 := Lib.frozen_of_heap z3 2; simp at q0 q1 q2 r0 r1 r2; clear b3 m3 z3)
              | fail)
            all_goals
              go_wp2_with fail
              refine bodyPost_ret (results_one Tryz.results17 _ _ w.heap.size _ _ _ _ (.bool r) rfl rfl HW.out Tryz.underlying33 rfl (by kernel_rfl)) rfl ?_
              refine ⟨k, P, a, nv, cv, by rw [HOM.out.1], (((HT3.out.b.drew.trans (HB3.out.mono HT3.out.b.size)).setCell (p := ⟨w.heap.size, 0, none⟩) (Nat.le_refl _) _).setCell (p := ⟨w.heap.size, 1, none⟩) (Nat.le_refl _) _).setCell (p := ⟨w.heap.size, 2, none⟩) (Nat.le_refl _) _, fun h => ?_⟩
              have e := HOM.out.2 h
              rw [e]
              exact ⟨rfl, rfl, (sl_else (sl_else (sl_else ((HT3.out.s.same (w' := W3.drew) (Nat.le_refl _) fun _ _ => rfl).on HB3.out) _ _ (by simp only; omega)) _ _ (by simp only; omega)) _ _ (by simp only; omega)).mono (by omega)⟩
      · have hxs' : sgs.contains x = false := by simpa using hxs
        have HXS := Lib.hid hxs'
        have hq1 : ((x.toNat : Int) == 61) = false := by
          rw [beq_eq_false_iff_ne]; intro e
          have : x = 61 := UInt8.toNat_inj.1 (by show x.toNat = 61; omega)
          rw [this] at hxs'; revert hxs'; decide
        have hq2 : ((x.toNat : Int) == 94) = false := by
          rw [beq_eq_false_iff_ne]; intro e
          have : x = 94 := UInt8.toNat_inj.1 (by show x.toNat = 94; omega)
          rw [this] at hxs'; revert hxs'; decide
        have hq3 : ((x.toNat : Int) == 64) = false := by
          rw [beq_eq_false_iff_ne]; intro e
          have : x = 64 := UInt8.toNat_inj.1 (by show x.toNat = 64; omega)
          rw [this] at hxs'; revert hxs'; decide
        have hq4 : ((x.toNat : Int) == 33) = false := by
          rw [beq_eq_false_iff_ne]; intro e
          have : x = 33 := UInt8.toNat_inj.1 (by show x.toNat = 33; omega)
          rw [this] at hxs'; revert hxs'; decide
        clear hxs hxs'
        go_upto_region 4 with fail
        go_region
        all_goals
          first
            | (rw [← HWA.out]; have FM := FA.out.b)
            | (rw [← HWB.out]; have FM := FB.out.b)
          have HB2 := Lib.hid FM
          clear FM
          go_wp2_with fail
          exact ⟨⟨i + 1, by go_num, by omega, Lib.hid (HNO.out.succ HX.out HXS.out), Lib.hid ⟨(HB2.out.block _ (by have := HST.out.2.size; have := (Array.getElem?_eq_some_iff.1 HST.out.1).1; omega)).trans HST.out.1, HST.out.2.trans (HB2.out.mono HST.out.2.size)⟩⟩, by simp [intOf]; omega⟩
    · have hil : ¬ (i : Int) < n := by omega
      have HM := Lib.hid (show mOk (mrOf s) = false from one_none (by have := hno.out; rw [show i = s.length by have := HN.out; omega] at this; exact this))
      have h0 := hst.out.1
      have q0 := Lib.cell_of_heap h0 0; have q1 := Lib.cell_of_heap h0 1; have q2 := Lib.cell_of_heap h0 2
      simp at q0 q1 q2
      have f0 : W0.frozen? ⟨w.heap.size, 0, none⟩ = false := by simp [World.frozen?, h0]
      have f1 : W0.frozen? ⟨w.heap.size, 1, none⟩ = false := by simp [World.frozen?, h0]
      have f2 : W0.frozen? ⟨w.heap.size, 2, none⟩ = false := by simp [World.frozen?, h0]
      have HW := Lib.hid (put3 W0 w.heap.size _ _ _ (.int .i64 0) (.string ⟨#[]⟩) (.slice none 0 0) _ h0)
      have HB := Lib.hid hst.out.2
      clear hno hst h0
      go_wp2_with fail
      refine bodyPost_ret (results_one Tryz.results17 _ _ w.heap.size _ _ _ _ (.bool false) rfl rfl HW.out Tryz.underlying33 rfl (by kernel_rfl)) rfl ?_
      refine ⟨0, [], none, 0, 0, by rw [HM.out]; rfl, (((HB.out.setCell (p := ⟨w.heap.size, 0, none⟩) (Nat.le_refl _) _).setCell (p := ⟨w.heap.size, 1, none⟩) (Nat.le_refl _) _).setCell (p := ⟨w.heap.size, 2, none⟩) (Nat.le_refl _) _), fun h => by rw [HM.out] at h; cases h⟩
end Go.Proofs.YtobdlfikomnmcaaGreatDoor

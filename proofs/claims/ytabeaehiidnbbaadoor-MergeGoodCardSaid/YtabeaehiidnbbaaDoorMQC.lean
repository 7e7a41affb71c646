/- A region that draws its order, whose calls only make new memory and answer one value each: walked once, in the order of the text, in the class of worlds that keep what stood. Layer 14: tables that read the same are the same to the document. -/
import Derived.Test.YtabeaehiidnbbaaDoorMSl
import Derived.BigQuiet
import Derived.Test.YtabeaehiidnbbaaDoorMA6
import Derived.Laws.StructEq
namespace Go.Proofs.YtabeaehiidnbbaaDoor
open Go.RowKit Go.Lib

theorem wp_region_quietC {P : Program} {C : World → Prop} {id : Nat} {Q : Exit → Act → World → Prop} {a : Act} {w : World} {l : List Oper} (hm : P.follows .mixedOrders = true) (hB : Region.lexB .any l.toArray = true) (hC : C w.drew)
    (h : wpQuiet P l.toArray C (fun a' => ∀ w', C w' → Q .normal a' w') l a) : (Code.region id l.toArray true).wp P Q a w :=
  wp_region_quiet (C := C) hm hB hC (by simpa using h)
/-- A callee's contract in the class. -/
theorem quiet_below {P : Program} {f : FuncId} {args : Array Value} {B : Nat} {w0 w : World} {v : Value} (hw : Below B w0 w) (hB : B ≤ w0.heap.size)
    (h : Calls P f args w fun e w' => e = .returned v ∧ Below w.heap.size w w') : Calls P f args w fun e w' => e = .returned v ∧ Below B w0 w' :=
  h.mono fun _ _ ⟨he, b⟩ => ⟨he, hw.trans (b.mono (Nat.le_trans hB hw.size))⟩
theorem quiet_below_same {P : Program} {f : FuncId} {args : Array Value} {B : Nat} {w0 w : World} {v : Value} (hw : Below B w0 w)
    (h : Calls P f args w fun e w' => e = .returned v ∧ w = w') : Calls P f args w fun e w' => e = .returned v ∧ Below B w0 w' :=
  h.mono fun _ _ ⟨he, b⟩ => ⟨he, b ▸ hw⟩
end Go.Proofs.YtabeaehiidnbbaaDoor

namespace Go.Proofs.YtabeaehiidnbbaaDoor
open Go.RowKit Go.Lib
set_option linter.unusedVariables false

theorem neq_smp (t v : Int) (w : World) : (binOp BinOp.neq 31 (.agg #[.int .i64 t, .int .u64 v]) (.agg #[.int .i64 t, .int .u64 v])).run Tryd.prog w = .ok (.bool false) w := by
  have u9 := Tryd.underlying2
  have a9 := Tryd.isAgg2
  have z9 := Tryd.sizeOf2
  have u8 := Tryd.underlying27
  have a8 := Tryd.isAgg27
  have z8 := Tryd.sizeOf27
  rw [run_neq_struct, show (10000 : Nat) = 9999 + 1 from rfl, run_equalIn_agg w 9999 31 _ _ (by kernel_rfl) (by kernel_rfl)]
  simp only [Program.fieldsOf, Tryd.underlying31]
  go_simp

set_option maxHeartbeats 4000000 in
set_option maxRecDepth 100000 in
theorem same14_any (tv uv : Value) (l : List Rw) (K : Nat) (w : World) (hA : TabR w K tv l) (hB : TabR w K uv l) (hm : l.length ≤ 1000) (hK : K ≤ 10000) :
    Calls Tryd.prog 13 #[tv, uv] w fun e w' => e = .returned (.bool true) ∧ Below w.heap.size w w' := by
  obtain ⟨n, hn⟩ : ∃ n, n = l.length := ⟨_, rfl⟩
  obtain ⟨-, qsA, hqsA, ⟨_, aA, capA, gA, offA, rfl, hgA, hcA⟩, hokA⟩ := hA
  rw [← hn] at hgA hcA
  have hqA : qsA.length = n := by rw [hn, ← hqsA, List.length_map]
  have HCA := Lib.hid hcA
  have HGA := Lib.hid hgA
  have HQA := Lib.hid hqA
  have HOKA := Lib.hid hokA
  have HQSA := Lib.hid hqsA
  clear hgA hcA hqA hokA hqsA
  obtain ⟨-, qsB, hqsB, ⟨_, aB, capB, gB, offB, rfl, hgB, hcB⟩, hokB⟩ := hB
  rw [← hn] at hgB hcB
  have hqB : qsB.length = n := by rw [hn, ← hqsB, List.length_map]
  have HCB := Lib.hid hcB
  have HGB := Lib.hid hgB
  have HQB := Lib.hid hqB
  have HOKB := Lib.hid hokB
  have HQSB := Lib.hid hqsB
  clear hgB hcB hqB hokB hqsB
  rw [← hn] at hm ⊢
  have HN := Lib.hid hn
  clear hn
  go_enter Tryd.func13, Tryd.ntmps13
  go_wp2_with fail
  go_loopw [5, 6, 14] (fun _ _ i' wr => ∃ (i : Nat), i' = .int .i64 i ∧ i ≤ n ∧ Below w.heap.size w wr) (fun _ _ i' _ => n - (intOf i').toNat)
  case atStart => exact ⟨0, rfl, by omega, Below.refl _ _⟩
  case round =>
    obtain ⟨W0, rfl⟩ : ∃ W0, W0 = wr := ⟨_, rfl⟩
    obtain ⟨i, rfl, hi, hb⟩ := hrel
    have hbz := hb.size
    by_cases hlt : i < n
    · have hil : (i : Int) < n := by omega
      obtain ⟨rfl, hglA⟩ := HGA.out (by omega)
      obtain ⟨⟨qaA, qbA, rA⟩, hxA⟩ : ∃ q, qsA[i]? = some q := ⟨qsA[i]'(by have := HQA.out; omega), List.getElem?_eq_getElem (by have := HQA.out; omega)⟩
      obtain ⟨v0A, v1A⟩ := rqc_at qsA i _ hxA
      have hliA : l[i]? = some rA := by rw [← HQSA.out, List.getElem?_map, hxA]; rfl
      have okA := HOKA.out _ (List.mem_of_getElem? hxA)
      have q0A := ((hb.cell (p := ⟨gA, offA + i * 2, none⟩) hglA).trans (HCA.out (i * 2) (by omega))).trans v0A
      have q1A := ((hb.cell (p := ⟨gA, offA + (i * 2 + 1), none⟩) hglA).trans (HCA.out (i * 2 + 1) (by omega))).trans v1A
      rw [← Nat.add_assoc] at q1A
      have hgwA : gA < W0.heap.size := Nat.lt_of_lt_of_le hglA hbz
      obtain ⟨rfl, hglB⟩ := HGB.out (by omega)
      obtain ⟨⟨qaB, qbB, rB⟩, hxB⟩ : ∃ q, qsB[i]? = some q := ⟨qsB[i]'(by have := HQB.out; omega), List.getElem?_eq_getElem (by have := HQB.out; omega)⟩
      obtain ⟨v0B, v1B⟩ := rqc_at qsB i _ hxB
      have hliB : l[i]? = some rB := by rw [← HQSB.out, List.getElem?_map, hxB]; rfl
      have okB := HOKB.out _ (List.mem_of_getElem? hxB)
      have q0B := ((hb.cell (p := ⟨gB, offB + i * 2, none⟩) hglB).trans (HCB.out (i * 2) (by omega))).trans v0B
      have q1B := ((hb.cell (p := ⟨gB, offB + (i * 2 + 1), none⟩) hglB).trans (HCB.out (i * 2 + 1) (by omega))).trans v1B
      rw [← Nat.add_assoc] at q1B
      have hgwB : gB < W0.heap.size := Nat.lt_of_lt_of_le hglB hbz
      have er : rB = rA := Option.some.inj (hliB.symm.trans hliA)
      subst er
      obtain ⟨rl, rs⟩ := rB
      obtain ⟨klA, ksA, kn, kk⟩ := okA
      obtain ⟨klB, ksB, -, -⟩ := okB
      simp only at klA ksA klB ksB kn kk q0A q1A q0B q1B
      obtain ⟨aa, ca, ea⟩ := klA.slice
      obtain ⟨ab, cb', eb⟩ := ksA.slice
      obtain ⟨ba, da, fa⟩ := klB.slice
      obtain ⟨bb, db, fb⟩ := ksB.slice
      subst ea eb fa fb
      obtain ⟨NL, hNL⟩ : ∃ NL, NL = rl.length := ⟨_, rfl⟩
      obtain ⟨NS, hNS⟩ : ∃ NS, NS = rs.length := ⟨_, rfl⟩
      rw [← hNL] at klA klB kn q0A q0B
      rw [← hNS] at ksA ksB kk q1A q1B
      have HNL := Lib.hid hNL; have HNS := Lib.hid hNS
      have HB := Lib.hid hb
      have FX := Lib.hid (fun W (b : Below W0.heap.size W0 W) => show W.cell? ⟨gA, offA + i * 2, none⟩ = some (.slice aa NL ca) ∧ W.cell? ⟨gA, offA + i * 2 + 1, none⟩ = some (.slice ab NS cb') ∧ W.cell? ⟨gB, offB + i * 2, none⟩ = some (.slice ba NL da) ∧ W.cell? ⟨gB, offB + i * 2 + 1, none⟩ = some (.slice bb NS db) from
        ⟨(b.cell (p := ⟨gA, offA + i * 2, none⟩) hgwA).trans q0A, (b.cell (p := ⟨gA, offA + i * 2 + 1, none⟩) hgwA).trans q1A, (b.cell (p := ⟨gB, offB + i * 2, none⟩) hgwB).trans q0B, (b.cell (p := ⟨gB, offB + i * 2 + 1, none⟩) hgwB).trans q1B⟩)
      have QR := Lib.hid (fun W (b : Below W0.heap.size W0 W) => show Calls Tryd.prog 27 #[.slice aa NL ca, .slice ba NL da] W (fun e w' => e = .returned (.int .i64 0) ∧ Below W0.heap.size W0 w') by
        have bw := HB.out.trans (b.mono HB.out.size)
        have h := rcmp_lb (.slice aa NL ca) (.slice ba NL da) rl rl W (by rw [← HNL.out]; exact klA.on bw) (by rw [← HNL.out]; exact klB.on bw) (by have := HNL.out; omega) (by have := HNL.out; omega)
        rw [cmpS_self] at h
        exact quiet_below b (Nat.le_refl _) h)
      have KA := Lib.hid ksA; have KB := Lib.hid ksB
      have hB0 := (Below.refl W0.heap.size W0).drew
      clear hxA hxB v0A v1A v0B v1B hliA hliB hNL hNS q0A q1A q0B q1B klA klB ksA ksB hb
      go_upto_region 6 with fail
      refine wp_region_quietC (C := fun W => Below W0.heap.size W0 W) (by kernel_rfl) (by kernel_rfl) hB0 ?_
      repeat (first
        | go_big_quiet_skip
        | (go_big_quiet_want; go_big_quiet_op; go_big_quiet_on)
        | (go_big_quiet_want; go_big_quiet_op; refine ⟨_, fun _ _ => rfl, ?_⟩; go_big_quiet_on)
        | (go_big_quiet_want; go_big_quiet_op; apply Exists.intro; refine And.intro (fun W hW => ?_) ?_; (obtain ⟨c0, c1, c2, c3⟩ := FX.out W hW; (try go_simp); (first | done | with_reducible rfl | (go_at_call 27; with_reducible exact QR.out _ hW) | fail)); go_big_quiet_on)
        | (go_big_quiet_want; apply Exists.intro; refine And.intro (fun W hW => ?_) ?_; (obtain ⟨c0, c1, c2, c3⟩ := FX.out W hW; go_simp; (first | done | with_reducible rfl | (go_at_call 27; with_reducible exact QR.out _ hW) | fail)); go_big_quiet_on; try simp only [Act.put, List.setIfInBounds_toArray, List.set_cons_zero, List.set_cons_succ]))
      with_reducible refine wpQuiet_nil ?_
      intro w2 hw2
      obtain ⟨c0, c1, c2, c3⟩ := FX.out _ hw2
      have HW2 := Lib.hid hw2
      have FX2 := FX
      clear hB0 hw2
      go_wp2_with fail
      clear c0 c1 c2 c3
      go_loopw [6, 50] (fun _ j' wr => ∃ (j : Nat), j' = .int .i64 j ∧ j ≤ NS ∧ Below W0.heap.size W0 wr) (fun _ j' _ => NS - (intOf j').toNat)
      case atStart => exact ⟨0, rfl, by omega, HW2.out⟩
      case round =>
        obtain ⟨j, rfl, hj, hbj⟩ := hrel
        by_cases hjt : j < NS
        · have hjl : (j : Int) < NS := by omega
          obtain ⟨x, hx⟩ : ∃ x, rs[j]? = some x := ⟨rs[j]'(by have := HNS.out; omega), List.getElem?_eq_getElem (by have := HNS.out; omega)⟩
          obtain ⟨v0, v1⟩ := spc_at rs j x hx
          obtain ⟨_, a1, k1, s1, o1, e1, hg1, hc1⟩ := KA.out
          cases e1
          obtain ⟨_, a2, k2, s2, o2, e2, hg2, hc2⟩ := KB.out
          cases e2
          obtain ⟨rfl, hl1⟩ := hg1 (by omega)
          obtain ⟨rfl, hl2⟩ := hg2 (by omega)
          obtain ⟨xt, hxt⟩ : ∃ xt, xt = x.t := ⟨_, rfl⟩
          obtain ⟨xv, hxv⟩ : ∃ xv, xv = x.v := ⟨_, rfl⟩
          rw [← hxt] at v0
          rw [← hxv] at v1
          have F2 := Lib.hid (fun W (b : Below W0.heap.size W0 W) => show W.cell? ⟨gA, offA + i * 2 + 1, none⟩ = some (.slice (some ⟨s1, o1, none⟩) NS cb') ∧ W.cell? ⟨gB, offB + i * 2 + 1, none⟩ = some (.slice (some ⟨s2, o2, none⟩) NS db) ∧ W.cell? ⟨s1, o1 + j * 2, none⟩ = some (.int .i64 xt) ∧ W.cell? ⟨s1, o1 + j * 2 + 1, none⟩ = some (.int .u64 xv) ∧ W.cell? ⟨s2, o2 + j * 2, none⟩ = some (.int .i64 xt) ∧ W.cell? ⟨s2, o2 + j * 2 + 1, none⟩ = some (.int .u64 xv) from by
            obtain ⟨-, d1, -, d3⟩ := FX.out W b
            have bw := HB.out.trans (b.mono HB.out.size)
            exact ⟨d1, d3, (bw.cell (p := ⟨s1, o1 + j * 2, none⟩) hl1).trans ((hc1 (j * 2) (by omega)).trans v0), (bw.cell (p := ⟨s1, o1 + j * 2 + 1, none⟩) hl1).trans ((hc1 (j * 2 + 1) (by omega)).trans v1), (bw.cell (p := ⟨s2, o2 + j * 2, none⟩) hl2).trans ((hc2 (j * 2) (by omega)).trans v0), (bw.cell (p := ⟨s2, o2 + j * 2 + 1, none⟩) hl2).trans ((hc2 (j * 2 + 1) (by omega)).trans v1)⟩)
          have NQ := fun W => neq_smp xt xv W
          have hBj := hbj.drew
          clear hx v0 v1 hxt hxv hc1 hc2 hg1 hg2
          go_upto_region 11 with fail
          refine wp_region_quietC (C := fun W => Below W0.heap.size W0 W) (by kernel_rfl) (by kernel_rfl) hBj ?_
          repeat (first
            | go_big_quiet_skip
            | (go_big_quiet_want; go_big_quiet_op; go_big_quiet_on)
            | (go_big_quiet_want; go_big_quiet_op; refine ⟨_, fun _ _ => rfl, ?_⟩; go_big_quiet_on)
            | (go_big_quiet_want; go_big_quiet_op; apply Exists.intro; refine And.intro (fun W hW => ?_) ?_; (obtain ⟨c1, c3, p0, p1, r0, r1⟩ := F2.out W hW; (try go_simp); (first | done | with_reducible rfl | fail)); go_big_quiet_on)
            | (go_big_quiet_want; apply Exists.intro; refine And.intro (fun W hW => ?_) ?_; (obtain ⟨c1, c3, p0, p1, r0, r1⟩ := F2.out W hW; go_simp; (first | done | with_reducible rfl | fail)); go_big_quiet_on; try simp only [Act.put, List.setIfInBounds_toArray, List.set_cons_zero, List.set_cons_succ]))
          with_reducible refine wpQuiet_nil ?_
          intro w3 hw3
          go_wp2
          exact ⟨⟨j + 1, by simp, by omega, hw3⟩, by simp [intOf]; omega⟩
        · have hjl : ¬ (j : Int) < NS := by omega
          go_wp2
          exact ⟨⟨i + 1, by simp, by omega, HB.out.trans (hbj.mono HB.out.size)⟩, by simp [intOf]; omega⟩
    · have hil : ¬ (i : Int) < n := by omega
      go_wp2
      go_ret
      exact ⟨rfl, hb⟩
end Go.Proofs.YtabeaehiidnbbaaDoor

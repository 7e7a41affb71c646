/- Layer 14: the program's rows told as the document's; samples counted; walked. A region that draws its order, whose calls only make new memory and answer one value each: walked once, in the order of the text, in the class of worlds that keep what stood. Layer 14: tables that read the same are the same to the document. -/
import Derived.Test.YtfckgcckpfklaaaGreatDoorMA6
import Derived.Test.YtfckgcckpfklaaaGreatDoorMSl2
import Derived.BigQuiet
import Derived.Laws.StructEq
namespace Go.Proofs.YtfckgcckpfklaaaGreatDoor
open Go.RowKit Go.Lib
set_option linter.unusedVariables false

set_option maxHeartbeats 4000000 in
set_option maxRecDepth 100000 in
theorem told14_any (tv : Value) (l : List Rw) (K : Nat) (w : World) (h : TabR w K tv l) (hm : l.length ≤ 1000) (hK : K ≤ 10000) :
    Calls Tryz.prog 15 #[tv] w fun e w' => ∃ v', e = .returned v' ∧ TabR w' K v' l ∧ Below w.heap.size w w' := by
  obtain ⟨i0, hi, hz0, hz1, hz2⟩ := info_parts zc_rrow
  have Hz := Lib.hid hz0; have Hs := Lib.hid hz1; have Hb := Lib.hid hz2; have Hi := Lib.hid hi
  clear hz0 hz1 hz2 hi
  obtain ⟨-, qs0, hqs, ⟨_, a, cap, g, off, rfl, hg, hc⟩, hok⟩ := h
  obtain ⟨n, hn⟩ : ∃ n, n = l.length := ⟨_, rfl⟩
  rw [← hn] at hg hc hm ⊢
  have hq0 : qs0.length = n := by rw [hn, ← hqs, List.length_map]
  have HN := Lib.hid hn
  have HC := Lib.hid hc
  have HG := Lib.hid hg
  have HQ0 := Lib.hid hq0
  have HOK := Lib.hid hok
  have HQS := Lib.hid hqs
  have S0 : TabN (w.alloc (.cells #[] 87)) w.heap.size K (.slice (some ⟨w.heap.size, 0, none⟩) 0 0) [] := ⟨Sl.lit w w.heap.size 2 0 #[] _ (Nat.le_refl _) (by decide) rfl, fun q hq => absurd hq (by simp)⟩
  have BA : Below w.heap.size w (w.alloc (.cells #[] 87)) := (Below.refl _ _).alloc (Nat.le_refl _) _
  clear hn hc hg hq0 hok hqs
  go_enter Tryz.func15, Tryz.ntmps15
  go_wp2_with fail
  go_loopw [3, 5, 9] (fun p' x' i' wr => ∃ (i : Nat) (qs : List Rq), i' = .int .i64 i ∧ i ≤ n ∧ Hid (qs.map Rq.r = l.take i) ∧ TabN wr w.heap.size K p' qs ∧ Below w.heap.size w wr) (fun _ _ i' _ => n - (intOf i').toNat)
  case atStart => exact ⟨0, [], rfl, by omega, Lib.hid rfl, S0, BA⟩
  case round =>
    clear S0 BA
    obtain ⟨W0, rfl⟩ : ∃ W0, W0 = wr := ⟨_, rfl⟩
    obtain ⟨i, qs, rfl, hi, hof, hown, hb⟩ := hrel
    have hbz := hb.size
    have hol : qs.length = i := by
      have := congrArg List.length hof.out
      rw [List.length_map, List.length_take] at this
      have := HN.out
      omega
    obtain ⟨oa, oc, he⟩ := hown.sl.slice
    subst he
    have HOB := Lib.hid (fun k hk => (hown.sl.lt k hk).2)
    have HOB1 := Lib.hid (fun k hk => (hown.sl.lt k hk).1)
    rw [hol] at hown HOB HOB1 ⊢
    have HML := Lib.hid hol.symm
    have BW := Lib.hid hb
    have HOWN := Lib.hid hown
    have slw := hown.sl
    rw [hol] at slw
    have SLW := Lib.hid slw
    clear hol hown slw
    by_cases hlt : i < n
    · obtain ⟨rfl, hgl⟩ := HG.out (by omega)
      obtain ⟨⟨qa, qb, rl, rs⟩, hx⟩ : ∃ q, qs0[i]? = some q := ⟨qs0[i]'(by have := HQ0.out; omega), List.getElem?_eq_getElem (by have := HQ0.out; omega)⟩
      obtain ⟨v0, v1⟩ := rqc_at qs0 i _ hx
      have hli : l[i]? = some ⟨rl, rs⟩ := by rw [← HQS.out, List.getElem?_map, hx]; rfl
      have ok := HOK.out _ (List.mem_of_getElem? hx)
      have q0 := ((hb.cell (p := ⟨g, off + i * 2, none⟩) hgl).trans (HC.out (i * 2) (by omega))).trans v0
      have q1 := ((hb.cell (p := ⟨g, off + (i * 2 + 1), none⟩) hgl).trans (HC.out (i * 2 + 1) (by omega))).trans v1
      rw [← Nat.add_assoc] at q1
      obtain ⟨kl, ks, kn, kk⟩ := ok
      simp only at kl ks kn kk q0 q1
      obtain ⟨aa, ca, ea⟩ := kl.slice
      obtain ⟨ab, cb', eb⟩ := ks.slice
      subst ea eb
      obtain ⟨NL, hNL⟩ : ∃ NL, NL = rl.length := ⟨_, rfl⟩
      obtain ⟨NS, hNS⟩ : ∃ NS, NS = rs.length := ⟨_, rfl⟩
      rw [← hNL] at kl kn q0
      rw [← hNS] at ks kk q1
      have HNL := Lib.hid hNL; have HNS := Lib.hid hNS
      have KS := Lib.hid ks; have KL := Lib.hid kl
      have hil : (i : Int) < n := by omega
      have STEP := Lib.hid (show l.take (i + 1) = qs.map Rq.r ++ [⟨rl, rs⟩] by rw [List.take_add_one, hli, hof.out]; rfl)
      obtain ⟨V1, hV1⟩ : ∃ V1, V1 = W0.alloc (.cells #[.slice aa NL ca, .slice ab NS cb'] 43) := ⟨_, rfl⟩
      have b1 : Below W0.heap.size W0 V1 := by rw [hV1]; exact (Below.refl _ _).alloc (Nat.le_refl _) _
      have y1 : V1.heap.size = W0.heap.size + 1 := by rw [hV1]; simp
      have hx1 : V1.heap[W0.heap.size]? = some (.cells #[.slice aa NL ca, .slice ab NS cb'] 43) := by rw [hV1]; exact heap_alloc_new W0 _
      have z1 := (Array.getElem?_eq_some_iff.1 hx1).1
      have FX := Lib.hid (fun W (b : Below V1.heap.size V1 W) => show W.cell? ⟨W0.heap.size, 0, none⟩ = some (.slice aa NL ca) ∧ W.cell? ⟨W0.heap.size, 1, none⟩ = some (.slice ab NS cb') from
        ⟨(b.cell (p := ⟨W0.heap.size, 0, none⟩) z1).trans (Lib.cell_of_heap hx1 0), (b.cell (p := ⟨W0.heap.size, 1, none⟩) z1).trans (Lib.cell_of_heap hx1 1)⟩)
      have TL := Lib.hid (fun W (b : Below V1.heap.size V1 W) => show Calls Tryz.prog 36 #[.slice aa NL ca] W (fun e w' => ∃ v', e = .returned v' ∧ Sl w' W.heap.size 2 v' NL (prc rl) ∧ Below W.heap.size W w') by
        have bw := BW.out.trans ((b1.trans (b.mono b1.size)).mono BW.out.size)
        have h := told_any (.slice aa NL ca) rl W (by rw [← HNL.out]; exact KL.out.on bw) (by have := HNL.out; omega)
        rw [HNL.out] at h ⊢
        exact h)
      have B0 := (Below.refl V1.heap.size V1).drew
      have HB1 := Lib.hid b1
      have hsz0 : W0.heap.size < V1.heap.size := z1
      clear hx hNL hNS v0 v1 hli ks kl hof hx1 b1 hb y1 z1
      go_upto_region 5 with fail
      rw [← hV1]
      clear hV1 q0 q1
      go_region_held3 (fun W => W.cell? ⟨W0.heap.size, 0, none⟩ = some (.slice aa NL ca) ∧ W.cell? ⟨W0.heap.size, 1, none⟩ = some (.slice ab NS cb'))
        (first | (refine FX.out _ ?_; assumption) | exact FX.out _ (b3v _) | assumption | fail)
        (first
          | (go_at_call 36; ((with_reducible refine (TL.out _ B0).mono ?_)); rintro e w3 ⟨v3, rfl, s3, b3⟩; obtain ⟨a3, c3, e3⟩ := s3.slice; subst e3; have B3 : Below V1.heap.size V1 w3 := B0.trans (b3.mono B0.size); have b3v : ∀ o, Below V1.heap.size V1 (w3.alloc o) := fun o => B3.alloc B3.size o; have b3a : ∀ o, Below W0.heap.size W0 (w3.alloc o) := fun o => HB1.out.trans ((b3v o).mono HB1.out.size); have slA : ∀ o, Sl (w3.alloc o) w.heap.size 2 (.slice oa i oc) i (rqc qs) := fun o => SLW.out.on (b3a o); have szA : ∀ o, w.heap.size ≤ (w3.alloc o).heap.size := fun o => Nat.le_trans hbz (b3a o).size; have z3 : W0.heap.size < w3.heap.size := Nat.lt_of_lt_of_le hsz0 B3.size)
          | (refine step_append_slB rfl (.tmp 13) (.tmp 20) 48 rfl w.heap.size 87 i0 (.agg #[.slice none 0 0, .slice none 0 0]) 2 48 Tryz.underlying48 Hi.out Hz.out Hs.out Hb.out rfl (by decide) (.slice oa i oc) i (rqc qs) (by simp [Act.eval]) (slA _) ⟨w3.heap.size, 0, none⟩ 1 1 [.slice a3 NL c3, .slice ab NS cb'] (by simp [Act.eval]) rfl (lit_row w3 _ _ _ _ rfl) (row_one _ _ _ _ _ _) (by unfold maxLen; omega) (by omega) (szA _) ?_; intro v6 w6 x6; have f6 := FX.out _ (b3v (.cells #[.slice a3 NL c3, .slice ab NS cb'] 87)); have r0 : w6.cell? ⟨W0.heap.size, 0, none⟩ = some (.slice aa NL ca) ∧ w6.cell? ⟨W0.heap.size, 1, none⟩ = some (.slice ab NS cb') := ⟨(x6.cell_old ⟨W0.heap.size, 0, none⟩ (by show W0.heap.size < (w3.alloc _).heap.size; simp; omega) (fun k hk e => by have := HOB.out k hk; exact absurd e (by show k ≠ W0.heap.size; omega))).trans f6.1, (x6.cell_old ⟨W0.heap.size, 1, none⟩ (by show W0.heap.size < (w3.alloc _).heap.size; simp; omega) (fun k hk e => by have := HOB.out k hk; exact absurd e (by show k ≠ W0.heap.size; omega))).trans f6.2⟩)
          | fail)
      go_wp2
      have hx7 : Ext w.heap.size 2 (w3.alloc (.cells #[.slice a3 NL c3, .slice ab NS cb'] 87)) (.slice oa i oc) i (rqc qs) w6 v6 (i + 1) (rqc qs ++ [.slice a3 NL c3, .slice ab NS cb']) := x6
      have bY := b3a (.cells #[.slice a3 NL c3, .slice ab NS cb'] 87)
      have bw := BW.out.trans (bY.mono BW.out.size)
      have bN : Below w3.heap.size w3 (w3.alloc (.cells #[.slice a3 NL c3, .slice ab NS cb'] 87)) := (Below.refl _ _).alloc (Nat.le_refl _) _
      have OKR : RowOk (w3.alloc (.cells #[.slice a3 NL c3, .slice ab NS cb'] 87)) K ⟨.slice a3 NL c3, .slice ab NS cb', ⟨rl, rs⟩⟩ := ⟨(by rw [← HNL.out]; exact (Rd.of_sl s3).on bN), (by rw [← HNS.out]; exact KS.out.on bw), (by have := HNL.out; show rl.length ≤ 1000; omega), (by have := HNS.out; show rs.length ≤ K; omega)⟩
      have T8 := tab_push HML.out (HOWN.out.on bY) hx7 OKR (by rw [← HNL.out]; exact off_gt (k0 := W0.heap.size) (fun k hk => by have h : V1.heap.size ≤ k := (s3.lt k hk).1; omega) HOB.out) (by rw [← HNS.out]; exact off_lt (fun h k hk => KS.out.lt h k hk) HOB1.out)
      exact ⟨⟨i + 1, qs ++ [⟨.slice a3 NL c3, .slice ab NS cb', ⟨rl, rs⟩⟩], by simp, by omega, Lib.hid (by rw [STEP.out, List.map_append]; rfl), T8, bw.trans (hx7.below (Nat.le_refl _) bw.size)⟩, by simp [intOf]; omega⟩
    · have hil : ¬ (i : Int) < n := by omega
      obtain rfl : i = n := by omega
      have HOF := Lib.hid (show qs.map Rq.r = l by rw [hof.out, HN.out, List.take_length])
      clear hof
      go_wp2
      go_ret
      exact ⟨_, rfl, by have h := HOWN.out.read (by have := HML.out; omega); rw [HOF.out] at h; exact h, BW.out⟩

/-- How many samples. -/
def cntZ (l : List Rw) : Nat := (l.map fun r => r.ss.length).sum
theorem cntZ_snoc (l : List Rw) (r : Rw) : cntZ (l ++ [r]) = cntZ l + r.ss.length := by simp [cntZ]
theorem cntZ_le (K : Nat) : ∀ l : List Rw, (∀ r ∈ l, r.ss.length ≤ K) → cntZ l ≤ l.length * K
  | [], _ => by simp [cntZ]
  | r :: l, h => by
    have h1 := cntZ_le K l (fun x hx => h x (List.mem_cons_of_mem _ hx))
    have h2 := h r (List.mem_cons_self ..)
    have h3 : cntZ (r :: l) = r.ss.length + cntZ l := by simp [cntZ]
    rw [h3, List.length_cons, Nat.add_mul]
    omega

end Go.Proofs.YtfckgcckpfklaaaGreatDoor

namespace Go.Proofs.YtfckgcckpfklaaaGreatDoor
open Go.RowKit Go.Lib

theorem wp_region_quietC {P : Program} {C : World → Prop} {id : Nat} {Q : Exit → Act → World → Prop} {a : Act} {w : World} {l : List Oper} (hm : P.follows .mixedOrders = true) (hB : Region.lexB .any l.toArray = true) (hC : C w.drew)
    (h : wpQuiet P l.toArray C (fun a' => ∀ w', C w' → Q .normal a' w') l a) : (Code.region id l.toArray true).wp P Q a w :=
  wp_region_quiet (C := C) hm hB hC (by simpa using h)
/-- A callee's contract in the class. -/
theorem quiet_below {P : Program} {f : FuncId} {args : Array Value} {B : Nat} {w0 w : World} {v : Value} (hw : Below B w0 w) (hB : B ≤ w0.heap.size)
    (h : Calls P f args w fun e w' => e = .returned v ∧ Below w.heap.size w w') : Calls P f args w fun e w' => e = .returned v ∧ Below B w0 w' :=
  h.mono fun _ _ ⟨he, b⟩ => ⟨he, hw.trans (b.mono (Nat.le_trans hB hw.size))⟩
theorem quiet_below_same {P : Program} {f : FuncId} {args : Array Value} {B : Nat} {w0 w : World} {v : Value} (hw : Below B w0 w)
    (h : Calls P f args w fun e w' => e = .returned v ∧ w = w') : Calls P f args w fun e w' => e = .returned v ∧ Below B w0 w' :=
  h.mono fun _ _ ⟨he, b⟩ => ⟨he, b ▸ hw⟩
end Go.Proofs.YtfckgcckpfklaaaGreatDoor

namespace Go.Proofs.YtfckgcckpfklaaaGreatDoor
open Go.RowKit Go.Lib
set_option linter.unusedVariables false

theorem neq_smp (t v : Int) (w : World) : (binOp BinOp.neq 34 (.agg #[.int .i64 t, .int .u64 v]) (.agg #[.int .i64 t, .int .u64 v])).run Tryz.prog w = .ok (.bool false) w := by
  have u9 := Tryz.underlying2
  have a9 := Tryz.isAgg2
  have z9 := Tryz.sizeOf2
  have u8 := Tryz.underlying32
  have a8 := Tryz.isAgg32
  have z8 := Tryz.sizeOf32
  rw [run_neq_struct, show (10000 : Nat) = 9999 + 1 from rfl, run_equalIn_agg w 9999 34 _ _ (by kernel_rfl) (by kernel_rfl)]
  simp only [Program.fieldsOf, Tryz.underlying34]
  go_simp

set_option maxHeartbeats 4000000 in
set_option maxRecDepth 100000 in
theorem same14_any (tv uv : Value) (l : List Rw) (K : Nat) (w : World) (hA : TabR w K tv l) (hB : TabR w K uv l) (hm : l.length ≤ 1000) (hK : K ≤ 10000) :
    Calls Tryz.prog 14 #[tv, uv] w fun e w' => e = .returned (.bool true) ∧ Below w.heap.size w w' := by
  obtain ⟨n, hn⟩ : ∃ n, n = l.length := ⟨_, rfl⟩
  obtain ⟨-, qsA, hqsA, ⟨_, aA, capA, gA, offA, rfl, hgA, hcA⟩, hokA⟩ := hA
  rw [← hn] at hgA hcA
  have hqA : qsA.length = n := by rw [hn, ← hqsA, List.length_map]
  have HCA := Lib.hid hcA
  have HGA := Lib.hid hgA
  have HQA := Lib.hid hqA
  have HOKA := Lib.hid hokA
  have HQSA := Lib.hid hqsA
  clear hgA hcA hqA hokA hqsA
  obtain ⟨-, qsB, hqsB, ⟨_, aB, capB, gB, offB, rfl, hgB, hcB⟩, hokB⟩ := hB
  rw [← hn] at hgB hcB
  have hqB : qsB.length = n := by rw [hn, ← hqsB, List.length_map]
  have HCB := Lib.hid hcB
  have HGB := Lib.hid hgB
  have HQB := Lib.hid hqB
  have HOKB := Lib.hid hokB
  have HQSB := Lib.hid hqsB
  clear hgB hcB hqB hokB hqsB
  rw [← hn] at hm ⊢
  have HN := Lib.hid hn
  clear hn
  go_enter Tryz.func14, Tryz.ntmps14
  go_wp2_with fail
  go_loopw [5, 6, 14] (fun _ _ i' wr => ∃ (i : Nat), i' = .int .i64 i ∧ i ≤ n ∧ Below w.heap.size w wr) (fun _ _ i' _ => n - (intOf i').toNat)
  case atStart => exact ⟨0, rfl, by omega, Below.refl _ _⟩
  case round =>
    obtain ⟨W0, rfl⟩ : ∃ W0, W0 = wr := ⟨_, rfl⟩
    obtain ⟨i, rfl, hi, hb⟩ := hrel
    have hbz := hb.size
    by_cases hlt : i < n
    · have hil : (i : Int) < n := by omega
      obtain ⟨rfl, hglA⟩ := HGA.out (by omega)
      obtain ⟨⟨qaA, qbA, rA⟩, hxA⟩ : ∃ q, qsA[i]? = some q := ⟨qsA[i]'(by have := HQA.out; omega), List.getElem?_eq_getElem (by have := HQA.out; omega)⟩
      obtain ⟨v0A, v1A⟩ := rqc_at qsA i _ hxA
      have hliA : l[i]? = some rA := by rw [← HQSA.out, List.getElem?_map, hxA]; rfl
      have okA := HOKA.out _ (List.mem_of_getElem? hxA)
      have q0A := ((hb.cell (p := ⟨gA, offA + i * 2, none⟩) hglA).trans (HCA.out (i * 2) (by omega))).trans v0A
      have q1A := ((hb.cell (p := ⟨gA, offA + (i * 2 + 1), none⟩) hglA).trans (HCA.out (i * 2 + 1) (by omega))).trans v1A
      rw [← Nat.add_assoc] at q1A
      have hgwA : gA < W0.heap.size := Nat.lt_of_lt_of_le hglA hbz
      obtain ⟨rfl, hglB⟩ := HGB.out (by omega)
      obtain ⟨⟨qaB, qbB, rB⟩, hxB⟩ : ∃ q, qsB[i]? = some q := ⟨qsB[i]'(by have := HQB.out; omega), List.getElem?_eq_getElem (by have := HQB.out; omega)⟩
      obtain ⟨v0B, v1B⟩ := rqc_at qsB i _ hxB
      have hliB : l[i]? = some rB := by rw [← HQSB.out, List.getElem?_map, hxB]; rfl
      have okB := HOKB.out _ (List.mem_of_getElem? hxB)
      have q0B := ((hb.cell (p := ⟨gB, offB + i * 2, none⟩) hglB).trans (HCB.out (i * 2) (by omega))).trans v0B
      have q1B := ((hb.cell (p := ⟨gB, offB + (i * 2 + 1), none⟩) hglB).trans (HCB.out (i * 2 + 1) (by omega))).trans v1B
      rw [← Nat.add_assoc] at q1B
      have hgwB : gB < W0.heap.size := Nat.lt_of_lt_of_le hglB hbz
      have er : rB = rA := Option.some.inj (hliB.symm.trans hliA)
      subst er
      obtain ⟨rl, rs⟩ := rB
      obtain ⟨klA, ksA, kn, kk⟩ := okA
      obtain ⟨klB, ksB, -, -⟩ := okB
      simp only at klA ksA klB ksB kn kk q0A q1A q0B q1B
      obtain ⟨aa, ca, ea⟩ := klA.slice
      obtain ⟨ab, cb', eb⟩ := ksA.slice
      obtain ⟨ba, da, fa⟩ := klB.slice
      obtain ⟨bb, db, fb⟩ := ksB.slice
      subst ea eb fa fb
      obtain ⟨NL, hNL⟩ : ∃ NL, NL = rl.length := ⟨_, rfl⟩
      obtain ⟨NS, hNS⟩ : ∃ NS, NS = rs.length := ⟨_, rfl⟩
      rw [← hNL] at klA klB kn q0A q0B
      rw [← hNS] at ksA ksB kk q1A q1B
      have HNL := Lib.hid hNL; have HNS := Lib.hid hNS
      have HB := Lib.hid hb
      have FX := Lib.hid (fun W (b : Below W0.heap.size W0 W) => show W.cell? ⟨gA, offA + i * 2, none⟩ = some (.slice aa NL ca) ∧ W.cell? ⟨gA, offA + i * 2 + 1, none⟩ = some (.slice ab NS cb') ∧ W.cell? ⟨gB, offB + i * 2, none⟩ = some (.slice ba NL da) ∧ W.cell? ⟨gB, offB + i * 2 + 1, none⟩ = some (.slice bb NS db) from
        ⟨(b.cell (p := ⟨gA, offA + i * 2, none⟩) hgwA).trans q0A, (b.cell (p := ⟨gA, offA + i * 2 + 1, none⟩) hgwA).trans q1A, (b.cell (p := ⟨gB, offB + i * 2, none⟩) hgwB).trans q0B, (b.cell (p := ⟨gB, offB + i * 2 + 1, none⟩) hgwB).trans q1B⟩)
      have QR := Lib.hid (fun W (b : Below W0.heap.size W0 W) => show Calls Tryz.prog 35 #[.slice aa NL ca, .slice ba NL da] W (fun e w' => e = .returned (.int .i64 0) ∧ Below W0.heap.size W0 w') by
        have bw := HB.out.trans (b.mono HB.out.size)
        have h := rcmp_lb (.slice aa NL ca) (.slice ba NL da) rl rl W (by rw [← HNL.out]; exact klA.on bw) (by rw [← HNL.out]; exact klB.on bw) (by have := HNL.out; omega) (by have := HNL.out; omega)
        rw [cmpS_self] at h
        exact quiet_below b (Nat.le_refl _) h)
      have KA := Lib.hid ksA; have KB := Lib.hid ksB
      have hB0 := (Below.refl W0.heap.size W0).drew
      clear hxA hxB v0A v1A v0B v1B hliA hliB hNL hNS q0A q1A q0B q1B klA klB ksA ksB hb
      go_upto_region 6 with fail
      refine wp_region_quietC (C := fun W => Below W0.heap.size W0 W) (by kernel_rfl) (by kernel_rfl) hB0 ?_
      repeat (first
        | go_big_quiet_skip
        | (go_big_quiet_want; go_big_quiet_op; go_big_quiet_on)
        | (go_big_quiet_want; go_big_quiet_op; refine ⟨_, fun _ _ => rfl, ?_⟩; go_big_quiet_on)
        | (go_big_quiet_want; go_big_quiet_op; apply Exists.intro; refine And.intro (fun W hW => ?_) ?_; (obtain ⟨c0, c1, c2, c3⟩ := FX.out W hW; (try go_simp); (first | done | with_reducible rfl | (go_at_call 35; with_reducible exact QR.out _ hW) | fail)); go_big_quiet_on)
        | (go_big_quiet_want; apply Exists.intro; refine And.intro (fun W hW => ?_) ?_; (obtain ⟨c0, c1, c2, c3⟩ := FX.out W hW; go_simp; (first | done | with_reducible rfl | (go_at_call 35; with_reducible exact QR.out _ hW) | fail)); go_big_quiet_on; try simp only [Act.put, List.setIfInBounds_toArray, List.set_cons_zero, List.set_cons_succ]))
      with_reducible refine wpQuiet_nil ?_
      intro w2 hw2
      obtain ⟨c0, c1, c2, c3⟩ := FX.out _ hw2
      have HW2 := Lib.hid hw2
      have FX2 := FX
      clear hB0 hw2
      go_wp2_with fail
      clear c0 c1 c2 c3
      go_loopw [6, 50] (fun _ j' wr => ∃ (j : Nat), j' = .int .i64 j ∧ j ≤ NS ∧ Below W0.heap.size W0 wr) (fun _ j' _ => NS - (intOf j').toNat)
      case atStart => exact ⟨0, rfl, by omega, HW2.out⟩
      case round =>
        obtain ⟨j, rfl, hj, hbj⟩ := hrel
        by_cases hjt : j < NS
        · have hjl : (j : Int) < NS := by omega
          obtain ⟨x, hx⟩ : ∃ x, rs[j]? = some x := ⟨rs[j]'(by have := HNS.out; omega), List.getElem?_eq_getElem (by have := HNS.out; omega)⟩
          obtain ⟨v0, v1⟩ := spc_at rs j x hx
          obtain ⟨_, a1, k1, s1, o1, e1, hg1, hc1⟩ := KA.out
          cases e1
          obtain ⟨_, a2, k2, s2, o2, e2, hg2, hc2⟩ := KB.out
          cases e2
          obtain ⟨rfl, hl1⟩ := hg1 (by omega)
          obtain ⟨rfl, hl2⟩ := hg2 (by omega)
          obtain ⟨xt, hxt⟩ : ∃ xt, xt = x.t := ⟨_, rfl⟩
          obtain ⟨xv, hxv⟩ : ∃ xv, xv = x.v := ⟨_, rfl⟩
          rw [← hxt] at v0
          rw [← hxv] at v1
          have F2 := Lib.hid (fun W (b : Below W0.heap.size W0 W) => show W.cell? ⟨gA, offA + i * 2 + 1, none⟩ = some (.slice (some ⟨s1, o1, none⟩) NS cb') ∧ W.cell? ⟨gB, offB + i * 2 + 1, none⟩ = some (.slice (some ⟨s2, o2, none⟩) NS db) ∧ W.cell? ⟨s1, o1 + j * 2, none⟩ = some (.int .i64 xt) ∧ W.cell? ⟨s1, o1 + j * 2 + 1, none⟩ = some (.int .u64 xv) ∧ W.cell? ⟨s2, o2 + j * 2, none⟩ = some (.int .i64 xt) ∧ W.cell? ⟨s2, o2 + j * 2 + 1, none⟩ = some (.int .u64 xv) from by
            obtain ⟨-, d1, -, d3⟩ := FX.out W b
            have bw := HB.out.trans (b.mono HB.out.size)
            exact ⟨d1, d3, (bw.cell (p := ⟨s1, o1 + j * 2, none⟩) hl1).trans ((hc1 (j * 2) (by omega)).trans v0), (bw.cell (p := ⟨s1, o1 + j * 2 + 1, none⟩) hl1).trans ((hc1 (j * 2 + 1) (by omega)).trans v1), (bw.cell (p := ⟨s2, o2 + j * 2, none⟩) hl2).trans ((hc2 (j * 2) (by omega)).trans v0), (bw.cell (p := ⟨s2, o2 + j * 2 + 1, none⟩) hl2).trans ((hc2 (j * 2 + 1) (by omega)).trans v1)⟩)
          have NQ := fun W => neq_smp xt xv W
          have hBj := hbj.drew
          clear hx v0 v1 hxt hxv hc1 hc2 hg1 hg2
          go_upto_region 11 with fail
          refine wp_region_quietC (C := fun W => Below W0.heap.size W0 W) (by kernel_rfl) (by kernel_rfl) hBj ?_
          repeat (first
            | go_big_quiet_skip
            | (go_big_quiet_want; go_big_quiet_op; go_big_quiet_on)
            | (go_big_quiet_want; go_big_quiet_op; refine ⟨_, fun _ _ => rfl, ?_⟩; go_big_quiet_on)
            | (go_big_quiet_want; go_big_quiet_op; apply Exists.intro; refine And.intro (fun W hW => ?_) ?_; (obtain ⟨c1, c3, p0, p1, r0, r1⟩ := F2.out W hW; (try go_simp); (first | done | with_reducible rfl | fail)); go_big_quiet_on)
            | (go_big_quiet_want; apply Exists.intro; refine And.intro (fun W hW => ?_) ?_; (obtain ⟨c1, c3, p0, p1, r0, r1⟩ := F2.out W hW; go_simp; (first | done | with_reducible rfl | fail)); go_big_quiet_on; try simp only [Act.put, List.setIfInBounds_toArray, List.set_cons_zero, List.set_cons_succ]))
          with_reducible refine wpQuiet_nil ?_
          intro w3 hw3
          go_wp2
          exact ⟨⟨j + 1, by simp, by omega, hw3⟩, by simp [intOf]; omega⟩
        · have hjl : ¬ (j : Int) < NS := by omega
          go_wp2
          exact ⟨⟨i + 1, by simp, by omega, HB.out.trans (hbj.mono HB.out.size)⟩, by simp [intOf]; omega⟩
    · have hil : ¬ (i : Int) < n := by omega
      go_wp2
      go_ret
      exact ⟨rfl, hb⟩
end Go.Proofs.YtfckgcckpfklaaaGreatDoor

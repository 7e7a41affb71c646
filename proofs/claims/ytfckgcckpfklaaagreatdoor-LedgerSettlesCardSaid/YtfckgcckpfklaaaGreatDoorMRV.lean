/- Layer 14, rows: merged, walked. Layer 14: labels cloned; how many rows are alike; walked. -/
import Derived.Test.YtfckgcckpfklaaaGreatDoorMAW
import Derived.Test.YtfckgcckpfklaaaGreatDoorMRT
import Derived.Test.YtfckgcckpfklaaaGreatDoorMAZ
namespace Go.Proofs.YtfckgcckpfklaaaGreatDoor
open Go.RowKit Go.Lib Hp
set_option linter.unusedVariables false

set_option maxHeartbeats 4000000 in
set_option maxRecDepth 100000 in
theorem merged_SR (v : Value) (k : Nat) (cur : Nat → List Rq) (iv : Nat → Value) (T : Nat) (w : World) (h : LsRR w v k cur iv) (hk : k ≤ 1000) (hT : T = totR cur k) (hTm : T ≤ 1000000) :
    Calls Tryz.prog 27 #[.func (.func 28) #[] #[], v] w fun e w' => ∃ v', e = .returned v' ∧ Sl w' w.heap.size 2 v' (kmgR cur k T).length (rqc (kmgR cur k T)) ∧ Below w.heap.size w w' := by
  obtain ⟨i0, hi, hz0, hz1, hz2⟩ := info_parts zc_mrow
  have Hz := Lib.hid hz0; have Hs := Lib.hid hz1; have Hb := Lib.hid hz2; have Hi := Lib.hid hi
  clear hz0 hz1 hz2 hi
  obtain ⟨⟨a, cap, g, off, rfl, hg, hc⟩, hrd, hcp⟩ := h
  have HG := Lib.hid hg; have HC := Lib.hid hc; have HRD := Lib.hid hrd; have HCP := Lib.hid hcp; have HT := Lib.hid hT
  obtain ⟨W1, hW1⟩ : ∃ W1, W1 = w.alloc (.cells #[.slice none 0 0, .func (.func 28) #[] #[]] 107) := ⟨_, rfl⟩
  have B1 : Below w.heap.size w W1 := by rw [hW1]; exact (Below.refl _ _).alloc (Nat.le_refl _) _
  have F0 := Lib.hid (FstR.zero (w0 := w) (w := W1) (F := w.heap.size) (P := fun _ => 0) (cur := cur) (iv := iv) (by rw [hW1]; exact heap_alloc_new w _) B1 (Nat.le_refl _))
  clear hg hc hrd B1 hcp hT
  go_enter Tryz.func27, Tryz.ntmps27
  go_upto_region 2 with fail
  rw [← hW1]
  clear hW1
  go_wp2_with fail
  go_loopw [6, 7, 15] (fun _ _ i' wr => ∃ (i : Nat) (P : Nat → Nat) (rv : Value) (n : Nat) (f : Nat → Nat), i' = .int .i64 i ∧ i ≤ k ∧ FstR w wr w.heap.size P rv n f cur iv i) (fun _ _ i' _ => k - (intOf i').toNat)
  case atStart => exact ⟨0, _, _, _, _, rfl, by omega, F0.out⟩
  case round =>
    clear F0
    obtain ⟨i, P, rv, n, f, rfl, hi, hst⟩ := hrel
    by_cases hlt : i < k
    · obtain ⟨rfl, hgl⟩ := HG.out (by omega)
      have hil : (i : Int) < k := by omega
      have q0 := (hst.fr.below.cell (p := ⟨g, off + i, none⟩) hgl).trans (HC.out i hlt)
      obtain ⟨P', hP', CP⟩ := hst.step (by omega) (HRD.out i hlt)
      obtain ⟨ai, ci, ei⟩ := (HRD.out i hlt).slice
      rw [ei] at q0 CP
      have CPH := Lib.hid CP
      clear CP hst hP' ei
      go_wp2_with fail
      refine CPH.out.mono ?_
      rintro e w3 ⟨rfl, rv', f3, b3⟩
      have F3 := Lib.hid f3
      clear f3 b3
      go_wp2
      exact ⟨⟨i + 1, P', rv', _, _, rfl, by omega, F3.out⟩, by simp [intOf]; omega⟩
    · have hil : ¬ (i : Int) < k := by omega
      obtain rfl : i = k := by omega
      have M0 := Lib.hid (show MgSR w wr w.heap.size i T cur P rv n f cur iv (.slice none 0 0) [] by rw [HT.out]; exact MgSR.zero hst HCP.out)
      clear hst hlt
      go_wp2_with fail
      go_loopw [8, 9] (fun v' _ wx => ∃ (rv : Value) (n : Nat) (f : Nat → Nat) (c : Nat → List Rq) (j : Nat → Value) (out : List Rq), MgSR w wx w.heap.size i T cur P rv n f c j v' out) (fun v' _ _ => T - slLen v')
      case atStart => exact ⟨_, _, _, _, _, _, M0.out⟩
      case round =>
        clear M0
        obtain ⟨rv, n, f, c, j, out, hm⟩ := hrel
        obtain ⟨va, vc, hve⟩ := hm.sl.slice
        subst hve
        have LN := Lib.hid (flen_FrSR hm.fr)
        cases n with
        | zero =>
          have DONE := Lib.hid (show kmgR cur i T = out by
            have h0 : totR c i = 0 := tot_endR c i fun q hq => by
              rcases Nat.eq_zero_or_pos (c q).length with h0 | h0
              · exact h0
              · obtain ⟨k, hk, _⟩ := (hm.has q).2 ⟨hq, h0⟩
                exact absurd hk (Nat.not_lt_zero _)
            have := hm.all
            rw [h0] at this
            simpa [kmgR] using this)
          have HM := Lib.hid hm
          clear hm
          go_wp2_with fail
          refine LN.out.mono ?_
          rintro e w2 ⟨rfl, rfl⟩
          go_wp2
          go_ret
          exact ⟨_, rfl, by rw [DONE.out]; exact HM.out.sl, HM.out.fr.below⟩
        | succ m =>
          have PO := Lib.hid (hpop_FrSR hm.fr (by have := hm.le; omega))
          have hm1 : (0 : Int) < ((m + 1 : Nat) : Int) := by omega
          have HM := Lib.hid hm
          clear hm
          go_wp2_with fail
          refine LN.out.mono ?_
          rintro e w2 ⟨rfl, rfl⟩
          have hta := fun W v => asrt_SR W v
          go_wp2_with fail
          refine PO.out.mono ?_
          rintro e w1 ⟨rfl, rv1, f1, b1, o1⟩
          obtain ⟨g2, off2, cap2, x, xs, hx, ei, hcl, hFP, hbox, ⟨hg2, c0, c1⟩, sl1, hri⟩ := HM.out.top b1
          obtain ⟨q, hq⟩ : ∃ q, q = P (f 0) := ⟨_, rfl⟩
          have hL1 : (c (f 0)).length = xs.length + 1 := by rw [hx]; rfl
          rw [ei, hL1, ← hq] at hbox
          rw [hL1] at hcl
          obtain ⟨L, hL⟩ : ∃ L, L = xs.length := ⟨_, rfl⟩
          rw [← hL] at hbox hcl
          obtain ⟨xt, hxt⟩ : ∃ xt, xt = x.a := ⟨_, rfl⟩
          obtain ⟨xv, hxv⟩ : ∃ xv, xv = x.b := ⟨_, rfl⟩
          rw [← hxt] at c0
          rw [← hxv] at c1
          obtain ⟨N, hN⟩ : ∃ N, N = out.length := ⟨_, rfl⟩
          rw [← hN] at sl1
          rw [← hq, ← hN]
          have hqw : q < w1.heap.size := (Array.getElem?_eq_some_iff.1 hbox).1
          have hwq : w.heap.size < q := by rw [hq]; exact hFP
          obtain ⟨Y, hY⟩ : ∃ Y, Y = w1.alloc (.cells #[xt, xv] 43) := ⟨_, rfl⟩
          have bY : Below w1.heap.size w1 Y := by rw [hY]; exact (Below.refl _ _).alloc (Nat.le_refl _) _
          have slY : Sl Y w.heap.size 2 (.slice va N vc) N (rqc out) := sl1.on bY
          have hboxY := (bY.block q hqw).trans hbox
          have hqY : q < Y.heap.size := (Array.getElem?_eq_some_iff.1 hboxY).1
          have litY : ∀ j u, [xt, xv][j]? = some u → Y.cell? ((⟨w1.heap.size, 0, none⟩ : Addr).add j) = some u := by
            have := (Sl.lit w1 0 2 1 #[xt, xv] 43 (Nat.zero_le _) (by decide) rfl).cells
            rw [hY]; exact this
          have hNT : N + 1 ≤ T := by
            have h1 := HM.out.cnt
            have h2 := tot_updR c (f 0) i ((HM.out.has (f 0)).1 ⟨0, by omega, rfl⟩).1 (by rw [hx]; simp)
            omega
          have hvq : ∀ k, (Value.slice va N vc).ownBlock = some k → k ≠ q := fun k hk e => (HM.out.own k (by rw [← hN]; exact hk)).2.2 (f 0) ⟨0, by omega, rfl⟩ (by rw [e, hq])
          have HE := Lib.hid (fun v' w5 (hx5 : Ext w.heap.size 2 Y (.slice va N vc) N (rqc out) w5 v' (N + 1) (rqc out ++ [xt, xv])) => show (∃ a c, v' = .slice a (N + 1) c) ∧ w5.cell? ⟨q, 1, none⟩ = some (.slice (some ⟨g2, off2, none⟩) (L + 1) cap2) ∧ w5.frozen? ⟨q, 1, none⟩ = false from
            ⟨hx5.now.slice, (hx5.cell_old ⟨q, 1, none⟩ hqY hvq).trans (Lib.cell_of_heap hboxY 1), (hx5.frozen_old ⟨q, 1, none⟩ hqY hvq).trans (Lib.frozen_of_heap hboxY 1)⟩)
          have HQ := Lib.hid hq; have HL := Lib.hid hL; have HXT := Lib.hid hxt; have HXV := Lib.hid hxv; have HN := Lib.hid hN
          have HX := Lib.hid hx; have HRI := Lib.hid hri; have F1 := Lib.hid f1; have BB1 := Lib.hid b1; have O1 := Lib.hid o1
          have HY := Lib.hid hY
          have BY := Lib.hid bY
          have e1 := Lib.cell_of_heap hbox 1
          simp at e1
          have z1 : w.heap.size ≤ Y.heap.size := by omega
          have pL : (0 : Int) < (L : Int) + 1 := by omega
          have pL2 : (1 : Int) ≤ (L : Int) + 1 := by omega
          have pL3 : (L : Int) + 1 ≤ (cap2 : Int) := by omega
          have hXX : [xt, xv] = [x.a, x.b] := by rw [hxt, hxv]
          have hMo := HM.out
          rw [← hN] at hMo
          have hone : ∀ v ∈ [xt, xv], v.oneCell' = true := by rw [hxt, hxv]; exact HM.out.one hx
          have hri' : ∀ a cp, (0 < L → a = some ⟨g2, off2 + 2, none⟩) → RdQ w (.slice a L cp) xs := fun a cp ha => by
            have := hri a cp (by rw [hL] at ha; exact ha)
            rw [← hL] at this
            exact this
          have PUT := Lib.hid (fun (v' : Value) (w5 : World) (hx5 : Ext w.heap.size 2 Y (.slice va N vc) N (rqc out) w5 v' (N + 1) (rqc out ++ [xt, xv])) (a : Option Addr) (cp : Nat) (ha : 0 < L → a = some ⟨g2, off2 + 2, none⟩) (hcp : L ≤ cp) => MgSR.put hMo hk f1 b1 o1 BY.out hN hx hq hL hXX hx5 (hri' a cp ha) hcp)
          clear hXX hMo hri' hq hL hxt hxv hN hx hri f1 b1 o1 ei hL1 hFP hY bY sl1 hbox hvq
          go_wp2_with (at_builtin; rw [← HY.out]; refine wpList_append_sl _ rfl _ _ 24 rfl w.heap.size 43 i0 (.agg #[.slice none 0 0, .slice none 0 0]) 2 48 Tryz.underlying24 Hi.out Hz.out Hs.out Hb.out rfl (by decide) _ N _ rfl slY ⟨w1.heap.size, 0, none⟩ 1 1 [xt, xv] rfl rfl litY hone (by unfold maxLen; omega) (by omega) z1 ?_; intro v' w5 hx5; obtain ⟨⟨a5, c5, rfl⟩, p1, pf1⟩ := HE.out v' w5 hx5)
          all_goals
            refine (PUT.out _ _ hx5 _ _ (by first | (intro _; rfl) | (intro h; omega)) (by omega)).mono ?_
            rintro e w4 ⟨rfl, rv2, n2, f2, c2, j2, hm2⟩
            have HM2 := Lib.hid hm2
            clear hm2 PUT
            go_wp2
            exact ⟨⟨rv2, n2, f2, c2, j2, out ++ [x], HM2.out⟩, by have := HN.out; simp [slLen]; omega⟩
end Go.Proofs.YtfckgcckpfklaaaGreatDoor

namespace Go.Proofs.YtfckgcckpfklaaaGreatDoor
open Go.RowKit Go.Lib Hp
set_option linter.unusedVariables false

theorem run_isnil_ls (a : Option Addr) (n c : Nat) (w : World) : (binOp BinOp.eql 36 (.slice a n c) (.slice none 0 0)).run Tryz.prog w = .ok (.bool a.isNone) w := by
  have hu := run_underlying Tryz.underlying36
  have he : (Op.equal 36 (.slice a n c) (.slice none 0 0)).run Tryz.prog w = .ok a.isNone w := by
    show (Op.equalIn (9999 + 1) _ _ _).run _ _ = _
    unfold Op.equalIn
    simp only [Sem.run_bind, hu, Result.andThen]
    cases a <;> rfl
  simp [binOp, go_sem, he]

set_option maxHeartbeats 1000000 in
set_option maxRecDepth 100000 in
theorem clone_ls (v : Value) (ds : List Pr) (w : World) (hr : Rd w 2 v ds.length (prc ds)) (hm : ds.length ≤ 1000000) :
    Calls Tryz.prog 25 #[v] w fun e w' => ∃ v', e = .returned v' ∧ Sl w' w.heap.size 2 v' ds.length (prc ds) ∧ Below w.heap.size w w' := by
  obtain ⟨i0, hi, hz0, hz1, hz2⟩ := info_parts zc_pair
  have Hz := Lib.hid hz0; have Hs := Lib.hid hz1; have Hb := Lib.hid hz2; have Hi := Lib.hid hi
  clear hz0 hz1 hz2 hi
  have HR := Lib.hid hr
  obtain ⟨hl0, a, cap, g, off, rfl, hg, hc⟩ := hr
  obtain ⟨n, hn⟩ : ∃ n, n = ds.length := ⟨_, rfl⟩
  have HN := Lib.hid hn
  rw [← hn] at hm hg HR ⊢
  cases a with
  | none =>
    have hn0 : n = 0 := by
      rcases Nat.eq_zero_or_pos n with h0 | h0
      · exact h0
      · exact absurd (hg h0).1 (by simp)
    have HE := Lib.hid (show ds = [] from List.eq_nil_of_length_eq_zero (by omega))
    subst hn0
    have hq := fun W => run_isnil_ls none 0 cap W
    clear hl0 hg hc hn
    go_enter Tryz.func25, Tryz.ntmps25
    go_wp2
    go_ret
    exact ⟨_, rfl, by rw [HE.out]; exact Sl.nil _ _ _, Below.refl _ _⟩
  | some ad =>
    have n1 : 0 + n ≤ maxLen := by unfold maxLen; omega
    have n2 : (0 + n) * 32 ≤ 140737488355328 := by omega
    have hq := fun W => run_isnil_ls (some ad) n cap W
    clear hl0 hg hc hn
    go_enter Tryz.func25, Tryz.ntmps25
    go_wp2_with (at_builtin; refine wpList_append_rd _ rfl _ _ 36 rfl w.heap.size 74 i0 (.agg #[.string ⟨#[]⟩, .string ⟨#[]⟩]) 2 32 Tryz.underlying36 Hi.out Hz.out Hs.out Hb.out rfl (by decide) _ 0 _ rfl (Sl.lit w w.heap.size 2 0 #[] _ (Nat.le_refl _) (by decide) rfl) _ n _ rfl (HR.out.on ((Below.refl _ _).alloc (Nat.le_refl _) _)) (prc_one _) n1 n2 (by simp) ?_; intro v' w1 hx)
    go_ret
    have hx1 := hx.now
    rw [Nat.zero_add] at hx1
    refine ⟨_, rfl, hx1, ?_⟩
    exact ((Below.refl _ w).alloc (Nat.le_refl _) _).grown hx.grown (by simp) (fun k e => by have e2 : w.heap.size = k := Option.some.inj e; omega)

/-- So many of the first rows have the first one's labels. -/
def AlikeN (l : List Rq) (n : Nat) : Prop := 1 ≤ n ∧ n ≤ l.length ∧ (∀ q0 j q, l[0]? = some q0 → 0 < j → j < n → l[j]? = some q → cmpS q0.r.ls q.r.ls = 0) ∧ ∀ q0 q, l[0]? = some q0 → l[n]? = some q → cmpS q0.r.ls q.r.ls ≠ 0

set_option maxHeartbeats 4000000 in
set_option maxRecDepth 100000 in
theorem alike_any (v : Value) (l : List Rq) (w : World) (h : RdQ w v l) (h0 : 0 < l.length) (hm : l.length ≤ 1000000) :
    Calls Tryz.prog 29 #[v] w fun e w' => ∃ n : Nat, e = .returned (.int .i64 n) ∧ AlikeN l n ∧ Below w.heap.size w w' := by
  obtain ⟨⟨_, a, cap, g, off, rfl, hg, hc⟩, hok⟩ := h
  obtain ⟨rfl, hgl⟩ := hg h0
  obtain ⟨L, hL⟩ : ∃ L, L = l.length := ⟨_, rfl⟩
  obtain ⟨q0, hq0⟩ : ∃ q, l[0]? = some q := ⟨l[0], List.getElem?_eq_getElem h0⟩
  obtain ⟨u0, u1⟩ := rqc_at l 0 q0 hq0
  have HC := Lib.hid hc
  have HOK := Lib.hid hok
  have HQ0 := Lib.hid hq0
  have HL := Lib.hid hL
  have HU0 := Lib.hid u0; have HU1 := Lib.hid u1
  rw [← hL] at hm h0 ⊢
  clear hg hc hok hL hq0 u0 u1
  go_enter Tryz.func29, Tryz.ntmps29
  go_wp2_with fail
  go_loopw [3] (fun n' wr => ∃ (n : Nat), n' = .int .i64 n ∧ 1 ≤ n ∧ n ≤ L ∧ Hid (∀ j q, 0 < j → j < n → l[j]? = some q → cmpS q0.r.ls q.r.ls = 0) ∧ Below w.heap.size w wr) (fun n' _ => L - (intOf n').toNat)
  case atStart => exact ⟨1, rfl, by omega, by omega, Lib.hid (fun j q h1 h2 _ => by omega), Below.refl _ _⟩
  case round =>
    obtain ⟨W0, rfl⟩ : ∃ W0, W0 = wr := ⟨_, rfl⟩
    obtain ⟨n, rfl, h1, hn, hof, hb⟩ := hrel
    have HB := Lib.hid hb
    have HOF := Lib.hid hof.out
    clear hof
    by_cases hlt : n < L
    · obtain ⟨q, hq⟩ : ∃ q, l[n]? = some q := ⟨l[n]'(by have := HL.out; omega), List.getElem?_eq_getElem (by have := HL.out; omega)⟩
      obtain ⟨v0, v1⟩ := rqc_at l n q hq
      have HQ := Lib.hid hq
      have ok0 := (HOK.out _ (List.mem_of_getElem? HQ0.out)).on (hb.mono (Nat.le_refl _))
      have okn := (HOK.out _ (List.mem_of_getElem? hq)).on (hb.mono (Nat.le_refl _))
      have i1 : (n : Int) < L := by omega
      have i2 : (0 : Int) ≤ (n : Int) := by omega
      have i3 : (0 : Int) < L := by omega
      have CB := Lib.hid (fun W (bb : Below W0.heap.size W0 W) => bylabels_any q0 q W (ok0.on bb) (okn.on bb))
      obtain ⟨c, hcc⟩ : ∃ c, c = cmpS q0.r.ls q.r.ls := ⟨_, rfl⟩
      rw [← hcc] at CB
      have HCC := Lib.hid hcc
      have hz := hb.size
      have FX := Lib.hid (fun W (bb : Below W0.heap.size W0 W) => show W.cell? ⟨g, off, none⟩ = some q0.a ∧ W.cell? ⟨g, off + 1, none⟩ = some q0.b ∧ W.cell? ⟨g, off + n * 2, none⟩ = some q.a ∧ W.cell? ⟨g, off + n * 2 + 1, none⟩ = some q.b from by
        have bW : Below w.heap.size w W := hb.trans (bb.mono hz)
        have := HL.out
        exact ⟨(bW.cell (p := ⟨g, off + 0, none⟩) hgl).trans ((HC.out 0 (by omega)).trans HU0.out), (bW.cell (p := ⟨g, off + 1, none⟩) hgl).trans ((HC.out 1 (by omega)).trans HU1.out), (bW.cell (p := ⟨g, off + n * 2, none⟩) hgl).trans ((HC.out (n * 2) (by omega)).trans v0), (bW.cell (p := ⟨g, off + (n * 2 + 1), none⟩) hgl).trans ((HC.out (n * 2 + 1) (by omega)).trans v1)⟩)
      obtain ⟨xa, hxa⟩ : ∃ x, x = q0.a := ⟨_, rfl⟩
      obtain ⟨xb, hxb⟩ : ∃ x, x = q0.b := ⟨_, rfl⟩
      obtain ⟨ya, hya⟩ : ∃ x, x = q.a := ⟨_, rfl⟩
      obtain ⟨yb, hyb⟩ : ∃ x, x = q.b := ⟨_, rfl⟩
      rw [← hxa, ← hxb, ← hya, ← hyb] at FX CB
      have B0 := Below.refl W0.heap.size W0
      obtain ⟨c0, c1, c2, c3⟩ := FX.out _ B0
      clear hq v0 v1 ok0 okn hcc hb hz hxa hxb hya hyb
      go_upto_region 2 with fail
      have BQ := B0.drew
      go_region_held3 (fun W => W.cell? ⟨g, off, none⟩ = some xa ∧ W.cell? ⟨g, off + 1, none⟩ = some xb ∧ W.cell? ⟨g, off + n * 2, none⟩ = some ya ∧ W.cell? ⟨g, off + n * 2 + 1, none⟩ = some yb)
        (first | (refine FX.out _ ?_; assumption) | assumption | fail)
        (first | (go_at_call 28; ((with_reducible refine (CB.out _ ?_).mono ?_)); exact BQ; rintro e w2 ⟨rfl, b2⟩; have B2 : Below W0.heap.size W0 w2 := BQ.trans (b2.mono BQ.size)) | fail)
      have HB2 := Lib.hid (HB.out.trans (B2.mono HB.out.size))
      clear B2 b2 BQ B0 CB FX c0 c1 c2 c3
      by_cases hc0 : c = 0
      · have HOF2 := Lib.hid (show ∀ j q, 0 < j → j < n + 1 → l[j]? = some q → cmpS q0.r.ls q.r.ls = 0 from fun j q' hj1 hj2 hj => by
          by_cases hjn : j = n
          · subst hjn
            rw [HQ.out] at hj
            obtain rfl := Option.some.inj hj
            rw [← HCC.out]; exact hc0
          · exact HOF.out j q' hj1 (by omega) hj)
        subst hc0
        go_wp2
        exact ⟨⟨n + 1, by simp, by omega, by omega, HOF2, HB2.out⟩, by simp [intOf]; omega⟩
      · have HE := Lib.hid (show AlikeN l n from ⟨h1, by have := HL.out; omega, fun q0' j q' e0 hj1 hj2 hj => by
            rw [HQ0.out] at e0
            obtain rfl := Option.some.inj e0
            exact HOF.out j q' hj1 hj2 hj, fun q0' q' e0 e1 => by
            rw [HQ0.out] at e0
            obtain rfl := Option.some.inj e0
            rw [HQ.out] at e1
            obtain rfl := Option.some.inj e1
            rw [← HCC.out]; exact hc0⟩)
        have hcb : (c == 0) = false := beq_eq_false_iff_ne.2 hc0
        clear hc0
        go_wp2
        go_ret
        exact ⟨n, rfl, HE.out, HB2.out⟩
    · have hil : ¬ (n : Int) < L := by omega
      have HE := Lib.hid (show AlikeN l n from ⟨h1, by have := HL.out; omega, fun q0' j q' e0 hj1 hj2 hj => by
          rw [HQ0.out] at e0
          obtain rfl := Option.some.inj e0
          exact HOF.out j q' hj1 hj2 hj, fun q0' q' e0 e1 => by
          have := (List.getElem?_eq_some_iff.1 e1).1
          have := HL.out
          omega⟩)
      clear hb
      go_wp2
      go_quiet (fail)
      go_wp2
      go_ret
      exact ⟨n, rfl, HE.out, below_draw HB.out _⟩
end Go.Proofs.YtfckgcckpfklaaaGreatDoor

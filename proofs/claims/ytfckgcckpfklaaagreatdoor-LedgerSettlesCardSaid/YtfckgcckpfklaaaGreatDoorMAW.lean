/- Layer 14: the second loop's round of merged, in the worlds' words. Layer 14: merged, walked. -/
import Derived.Test.YtfckgcckpfklaaaGreatDoorMAR
namespace Go.Proofs.YtfckgcckpfklaaaGreatDoor
open Go.RowKit Go.Lib Hp
set_option linter.unusedVariables false

/-- What the second loop keeps: what came out so far, and what is left. -/
structure MgS (w0 wr : World) (F k T : Nat) (cur0 : Nat → List Sp) (P : Nat → Nat) (rv : Value) (n : Nat) (f : Nat → Nat) (cur : Nat → List Sp) (iv : Nat → Value) (v : Value) (out : List Sp) : Prop where
  fr : FrS w0 wr F P rv n f cur iv
  good : Good (ltS cur) f n
  has : ∀ p, Has f n p ↔ p < k ∧ 0 < (cur p).length
  le : n ≤ k
  sl : Sl wr w0.heap.size 2 v out.length (spc out)
  own : ∀ g, v.ownBlock = some g → g ≠ F ∧ rv.ownBlock ≠ some g ∧ ∀ p, Has f n p → P p ≠ g
  cap : ∀ p, p < k → Capd (iv p) (cur p).length
  cnt : out.length + tot cur k = T
  all : kmg cur0 k T = out ++ kmg cur k (tot cur k)
theorem MgS.zero {w0 w : World} {F k : Nat} {P : Nat → Nat} {rv : Value} {n : Nat} {f : Nat → Nat} {cur : Nat → List Sp} {iv : Nat → Value} (h : Fst w0 w F P rv n f cur iv k) (hc : ∀ p, p < k → Capd (iv p) (cur p).length) : MgS w0 w F k (tot cur k) cur P rv n f cur iv (.slice none 0 0) [] :=
  ⟨h.fr, h.good, h.has, h.le, Sl.nil _ _ _, fun g hg => (by cases hg), hc, by simp, by simp⟩
/-- The list on top. -/
theorem MgS.top {w0 w w1 : World} {F k T m : Nat} {cur0 : Nat → List Sp} {P : Nat → Nat} {rv v : Value} {f : Nat → Nat} {cur : Nat → List Sp} {iv : Nat → Value} {out : List Sp} (h : MgS w0 w F k T cur0 P rv (m + 1) f cur iv v out) (b : Bk F rv w w1) :
    ∃ g off cap x xs, cur (f 0) = x :: xs ∧ iv (f 0) = .slice (some ⟨g, off, none⟩) (cur (f 0)).length cap ∧ (cur (f 0)).length ≤ cap ∧ F < P (f 0) ∧ w1.heap[P (f 0)]? = some (.cells #[.int .i64 (f 0), iv (f 0)] 171) ∧
      (g < w1.heap.size ∧ w1.cell? ⟨g, off, none⟩ = some (.int .i64 x.t) ∧ w1.cell? ⟨g, off + 1, none⟩ = some (.int .u64 x.v)) ∧ Sl w1 w0.heap.size 2 v out.length (spc out) ∧
      (∀ a c, (0 < xs.length → a = some ⟨g, off + 2, none⟩) → Rd w0 2 (.slice a xs.length c) xs.length (spc xs)) := by
  obtain ⟨r1, r2, ⟨hl, ai, ki, sp, op, ei, hgi, hci⟩, r4⟩ := h.fr.rest (f 0) ⟨0, by omega, rfl⟩
  obtain ⟨rfl, hsp⟩ := hgi r4
  obtain ⟨x, xs, hx⟩ : ∃ x xs, cur (f 0) = x :: xs := List.exists_cons_of_length_pos r4
  have hx0 := spc_at (cur (f 0)) 0 x (by rw [hx]; rfl)
  have hb := h.fr.below.trans (b.b.mono h.fr.big)
  have hcap : (cur (f 0)).length ≤ ki := by
    obtain ⟨a', c', e1, e2⟩ := h.cap (f 0) ((h.has (f 0)).1 ⟨0, by omega, rfl⟩).1
    rw [ei] at e1
    cases e1
    exact e2
  refine ⟨sp, op, ki, x, xs, hx, ei, hcap, r2, (b.k _ (Array.getElem?_eq_some_iff.1 r1).1 (by omega) (fun g hg => h.fr.own g hg (f 0) ⟨0, by omega, rfl⟩)).trans r1, ⟨?_, ?_, ?_⟩, ?_, fun a c ha => ?_⟩
  · exact Nat.lt_of_lt_of_le hsp hb.size
  · exact (hb.cell (p := ⟨sp, op + 0, none⟩) hsp).trans ((hci 0 (by omega)).trans hx0.1)
  · exact (hb.cell (p := ⟨sp, op + 1, none⟩) hsp).trans ((hci 1 (by omega)).trans hx0.2)
  · refine h.sl.same b.b.size fun g hg => b.k g (h.sl.lt g hg).2 (h.own g hg).1 (fun g' hg' e => ?_)
    subst e
    exact (h.own g hg).2.1 hg'
  · refine ⟨spc_len _, a, c, sp, op + 2, rfl, fun hn => ⟨ha hn, hsp⟩, fun j hj => ?_⟩
    rw [Nat.add_assoc, hci (2 + j) (by rw [hx]; simp only [List.length_cons]; omega), hx]
    have e : spc (x :: xs) = .int .i64 x.t :: .int .u64 x.v :: spc xs := rfl
    rw [e, show 2 + j = j + 1 + 1 by omega]
    rfl
theorem MgS.one {w0 w : World} {F k T m : Nat} {cur0 : Nat → List Sp} {P : Nat → Nat} {rv v : Value} {f : Nat → Nat} {cur : Nat → List Sp} {iv : Nat → Value} {out xs : List Sp} {x : Sp} (h : MgS w0 w F k T cur0 P rv (m + 1) f cur iv v out) (hx : cur (f 0) = x :: xs) : ∀ v ∈ [Value.int .i64 x.t, .int .u64 x.v], v.oneCell' = true := spc_one [x]
/-- One round. -/
theorem MgS.round {w0 w w1 Y w2 : World} {F k T m : Nat} {cur0 : Nat → List Sp} {P : Nat → Nat} {rv rv1 v v' ri : Value} {f : Nat → Nat} {cur : Nat → List Sp} {iv : Nat → Value} {out xs : List Sp} {x : Sp} {N : Nat} (h : MgS w0 w F k T cur0 P rv (m + 1) f cur iv v out)
    (f1 : FrS w0 w1 F P rv1 m (popF (ltS cur) f m) cur iv) (b1 : Bk F rv w w1) (o1 : rv1.ownBlock = rv.ownBlock) (bY : Below w1.heap.size w1 Y) (hN : N = out.length) (hx : cur (f 0) = x :: xs)
    (hE : Ext w0.heap.size 2 Y v N (spc out) w2 v' (N + 1) (spc out ++ [.int .i64 x.t, .int .u64 x.v])) (hri : Rd w0 2 ri xs.length (spc xs)) (hrc : Capd ri xs.length) :
    ∃ cur' iv', FrS w0 (w2.setCell ⟨P (f 0), 1, none⟩ ri) F P rv1 m (popF (ltS cur) f m) cur' iv' ∧
      ((w2.setCell ⟨P (f 0), 1, none⟩ ri).heap[P (f 0)]? = some (.cells #[.int .i64 (f 0), iv' (f 0)] 171) ∧ F < P (f 0) ∧ Rd w0 2 (iv' (f 0)) (cur' (f 0)).length (spc (cur' (f 0)))) ∧ (∀ g, rv1.ownBlock = some g → P (f 0) ≠ g) ∧
      ∀ w4 rv2, FrS w0 w4 F P rv2 (putN cur' m (f 0)) (putF cur' (popF (ltS cur) f m) m (f 0)) cur' iv' → Bk F rv1 (w2.setCell ⟨P (f 0), 1, none⟩ ri) w4 → (∀ g, rv2.ownBlock = some g → rv1.ownBlock = some g ∨ (w2.setCell ⟨P (f 0), 1, none⟩ ri).heap.size ≤ g) →
        MgS w0 w4 F k T cur0 P rv2 (putN cur' m (f 0)) (putF cur' (popF (ltS cur) f m) m (f 0)) cur' iv' v' (out ++ [x]) := by
  subst hN
  have h00 : Has f (m + 1) (f 0) := ⟨0, by omega, rfl⟩
  obtain ⟨r1, r2, r3, r4⟩ := h.fr.rest (f 0) h00
  have hFw : F < w.heap.size := (Array.getElem?_eq_some_iff.1 h.fr.box).1
  have hPw : P (f 0) < w.heap.size := (Array.getElem?_eq_some_iff.1 r1).1
  have z1 := b1.b.size
  have zY := bY.size
  have z2 := hE.grown.size
  have blk : ∀ b, b < w1.heap.size → (∀ g, v.ownBlock = some g → g ≠ b) → w2.heap[b]? = w1.heap[b]? := fun b hb hv => (Ext.block_old hE b (by omega) hv).trans (bY.block b hb)
  have rest1 : ∀ p, Has f (m + 1) p → w1.heap[P p]? = some (.cells #[.int .i64 p, iv p] 171) := fun p hp => by
    obtain ⟨q1, q2, _, _⟩ := h.fr.rest p hp
    exact (b1.k _ (Array.getElem?_eq_some_iff.1 q1).1 (by omega) (fun g hg => h.fr.own g hg p hp)).trans q1
  have rest2 : ∀ p, Has f (m + 1) p → w2.heap[P p]? = some (.cells #[.int .i64 p, iv p] 171) := fun p hp => by
    have q := rest1 p hp
    exact (blk _ (Array.getElem?_eq_some_iff.1 q).1 (fun g hg e => (h.own g hg).2.2 p hp e.symm)).trans q
  have hPne : ∀ p, Has f (m + 1) p → p ≠ f 0 → P p ≠ P (f 0) := fun p hp hne e => by
    have q := rest1 p hp
    rw [e, rest1 (f 0) h00] at q
    simp only [Option.some.injEq, Obj.cells.injEq, Array.mk.injEq, List.cons.injEq, Value.int.injEq] at q
    omega
  have hph := fun p => pop_has (lt := ltS cur) h.good.inj p
  refine ⟨updS cur (f 0) (cur (f 0)).tail, fun q => if q = f 0 then ri else iv q, ⟨?_, ?_, f1.own, fun p hp => ?_, ?_, f1.big⟩, ⟨?_, r2, ?_⟩, fun g hg => ?_, fun w4 rv2 f4 b4 o4 => ?_⟩
  · rw [Below.heap_setCell _ _ _ _ (by simp only; omega)]
    exact (blk F (by omega) (fun g hg e => (h.own g hg).1 e)).trans f1.box
  · refine f1.sl.same (by simp [World.setCell]; omega) fun g hg => ?_
    have hg' : rv.ownBlock = some g := by rw [← o1]; exact hg
    rw [Below.heap_setCell _ _ _ _ (by simp only; exact fun e => h.fr.own g hg' (f 0) h00 e.symm)]
    exact blk g (f1.sl.lt g hg).2 (fun g' hg1 e => by subst e; exact (h.own g' hg1).2.1 hg')
  · obtain ⟨hp1, hp2⟩ := (hph p).1 hp
    obtain ⟨q1, q2, q3, q4⟩ := f1.rest p hp
    have e1 : updS cur (f 0) (cur (f 0)).tail p = cur p := by simp [updS, hp2]
    simp only [e1, if_neg hp2]
    refine ⟨?_, q2, q3, q4⟩
    rw [Below.heap_setCell _ _ _ _ (by simp only; exact hPne p hp1 hp2)]
    exact rest2 p hp1
  · have bb : Below w0.heap.size w1 w2 := (bY.mono (by have := h.fr.below.size; omega)).trans (hE.below (Nat.le_refl _) (by have := h.fr.below.size; omega))
    exact (f1.below.trans bb).setCell (p := ⟨P (f 0), 1, none⟩) (by have := h.fr.big; show w0.heap.size ≤ P (f 0); omega) _
  · rw [heap_setCell_same w2 (P (f 0)) 1 _ _ ri (rest2 (f 0) h00)]
    simp
  · simp only [if_true]
    have e1 : updS cur (f 0) (cur (f 0)).tail (f 0) = xs := by simp [updS, hx]
    rw [e1]
    exact hri
  · exact h.fr.own g (by rw [← o1]; exact hg) (f 0) h00
  · obtain ⟨g1, g2⟩ := round_good h.good h.has
    have ht := tot_upd cur (f 0) k ((h.has (f 0)).1 h00).1 r4
    have htot := h.cnt
    have hlo : (out ++ [x]).length = out.length + 1 := by simp
    have hcase : ∀ g, v'.ownBlock = some g → (v.ownBlock = some g ∨ Y.heap.size ≤ g) ∧ g < w2.heap.size := fun g hg => by
      refine ⟨?_, (hE.now.lt g hg).2⟩
      rcases hE.alias with ⟨a, cap, e0, e1, _⟩ | hnew
      · refine .inl ?_
        rw [e0]
        rw [e1] at hg
        rw [ownBlock_slice a _ (out.length + 1) cap cap]
        exact hg
      · exact .inr (hnew g hg)
    have hz3 : (w2.setCell ⟨P (f 0), 1, none⟩ ri).heap.size = w2.heap.size := by simp [World.setCell]
    have hold : ∀ g, v'.ownBlock = some g → g ≠ F ∧ rv1.ownBlock ≠ some g ∧ ∀ p, Has f (m + 1) p → P p ≠ g := fun g hg => by
      obtain ⟨hc, hlt⟩ := hcase g hg
      rcases hc with hc | hc
      · obtain ⟨c1, c2, c3⟩ := h.own g hc
        exact ⟨c1, by rw [o1]; exact c2, c3⟩
      · refine ⟨by omega, fun e => ?_, fun p hp e => ?_⟩
        · rw [o1] at e
          have := (h.fr.sl.lt g e).2
          omega
        · have := (Array.getElem?_eq_some_iff.1 (rest1 p hp)).1
          omega
    refine ⟨f4, g1, g2, ?_, ?_, fun g hg => ?_, fun p hp => ?_, ?_, ?_⟩
    · have := h.le
      unfold putN
      split <;> omega
    · rw [hlo, spc_append]
      show Sl w4 w0.heap.size 2 v' (out.length + 1) (spc out ++ [.int .i64 x.t, .int .u64 x.v])
      refine hE.now.same (by have := b4.b.size; omega) fun g hg => ?_
      obtain ⟨hc, hlt⟩ := hcase g hg
      obtain ⟨n1, n2, n3⟩ := hold g hg
      rw [b4.k g (by omega) n1 (fun g' hg' e => by subst e; exact n2 hg'), Below.heap_setCell _ _ _ _ (by simp only; exact fun e => n3 (f 0) h00 e.symm)]
    · obtain ⟨hc, hlt⟩ := hcase g hg
      obtain ⟨n1, n2, n3⟩ := hold g hg
      refine ⟨n1, fun e => ?_, fun p hp => n3 p ?_⟩
      · rcases o4 g e with h4 | h4
        · exact n2 h4
        · omega
      · obtain ⟨hpk, hpl⟩ := (g2 p).1 hp
        refine (h.has p).2 ⟨hpk, ?_⟩
        by_cases hp0 : p = f 0
        · subst hp0; exact r4
        · simpa [updS, hp0] using hpl
    · by_cases hp0 : p = f 0
      · subst hp0
        simp only [updS, if_true]
        rw [hx]
        exact hrc
      · simp only [updS, if_neg hp0]
        exact h.cap p hp
    · rw [hlo]; omega
    · rw [h.all, ← ht, kmg_step (top_least h.good h.has), hx]
      simp
theorem MgS.put {w0 w w1 Y w2 : World} {F k T m q L N cp : Nat} {cur0 : Nat → List Sp} {P : Nat → Nat} {rv rv1 v v' : Value} {f : Nat → Nat} {cur : Nat → List Sp} {iv : Nat → Value} {out xs : List Sp} {x : Sp} {X : List Value} {a : Option Addr} (h : MgS w0 w F k T cur0 P rv (m + 1) f cur iv v out) (hk : k ≤ 1000)
    (f1 : FrS w0 w1 F P rv1 m (popF (ltS cur) f m) cur iv) (b1 : Bk F rv w w1) (o1 : rv1.ownBlock = rv.ownBlock) (bY : Below w1.heap.size w1 Y) (hN : N = out.length) (hx : cur (f 0) = x :: xs) (hq : q = P (f 0)) (hL : L = xs.length) (hX : X = [.int .i64 x.t, .int .u64 x.v])
    (hE : Ext w0.heap.size 2 Y v N (spc out) w2 v' (N + 1) (spc out ++ X)) (hri : Rd w0 2 (.slice a L cp) L (spc xs)) (hcp : L ≤ cp) :
    Calls Tryz.prog 95 #[.pointer (some ⟨F, 0, none⟩), .pointer (some ⟨q, 0, none⟩)] (w2.setCell ⟨q, 1, none⟩ (.slice a L cp)) fun e w' => e = .returned (.tuple #[]) ∧ ∃ (rv : Value) (n : Nat) (f : Nat → Nat) (c : Nat → List Sp) (j : Nat → Value), MgS w0 w' F k T cur0 P rv n f c j v' (out ++ [x]) := by
  subst hq hL hX
  obtain ⟨c', j', r1, r2, r3, r4⟩ := MgS.round h f1 b1 o1 bY hN hx hE hri ⟨a, cp, rfl, hcp⟩
  refine (put_FrS (p := f 0) r1 (by have := h.le; omega) r2 r3).mono ?_
  rintro e w4 ⟨rfl, rv2, f4, b4, o4⟩
  exact ⟨rfl, _, _, _, _, _, r4 w4 rv2 f4 b4 o4⟩
end Go.Proofs.YtfckgcckpfklaaaGreatDoor

namespace Go.Proofs.YtfckgcckpfklaaaGreatDoor
open Go.RowKit Go.Lib Hp
set_option linter.unusedVariables false

def slLen : Value → Nat
  | .slice _ n _ => n
  | _ => 0
set_option maxHeartbeats 4000000 in
set_option maxRecDepth 100000 in
theorem merged_S (v : Value) (k : Nat) (cur : Nat → List Sp) (iv : Nat → Value) (T : Nat) (w : World) (h : LsR w v k cur iv) (hk : k ≤ 1000) (hT : T = tot cur k) (hTm : T ≤ 1000000) :
    Calls Tryz.prog 76 #[.func (.func 77) #[] #[], v] w fun e w' => ∃ v', e = .returned v' ∧ Sl w' w.heap.size 2 v' (kmg cur k T).length (spc (kmg cur k T)) ∧ Below w.heap.size w w' := by
  obtain ⟨i0, hi, hz0, hz1, hz2⟩ := info_parts zc_smp
  have Hz := Lib.hid hz0; have Hs := Lib.hid hz1; have Hb := Lib.hid hz2; have Hi := Lib.hid hi
  clear hz0 hz1 hz2 hi
  obtain ⟨⟨a, cap, g, off, rfl, hg, hc⟩, hrd, hcp⟩ := h
  have HG := Lib.hid hg; have HC := Lib.hid hc; have HRD := Lib.hid hrd; have HCP := Lib.hid hcp; have HT := Lib.hid hT
  obtain ⟨W1, hW1⟩ : ∃ W1, W1 = w.alloc (.cells #[.slice none 0 0, .func (.func 77) #[] #[]] 167) := ⟨_, rfl⟩
  have B1 : Below w.heap.size w W1 := by rw [hW1]; exact (Below.refl _ _).alloc (Nat.le_refl _) _
  have F0 := Lib.hid (Fst.zero (w0 := w) (w := W1) (F := w.heap.size) (P := fun _ => 0) (cur := cur) (iv := iv) (by rw [hW1]; exact heap_alloc_new w _) B1 (Nat.le_refl _))
  clear hg hc hrd B1 hcp hT
  go_enter Tryz.func76, Tryz.ntmps76
  go_upto_region 2 with fail
  rw [← hW1]
  clear hW1
  go_wp2_with fail
  go_loopw [6, 7, 15] (fun _ _ i' wr => ∃ (i : Nat) (P : Nat → Nat) (rv : Value) (n : Nat) (f : Nat → Nat), i' = .int .i64 i ∧ i ≤ k ∧ Fst w wr w.heap.size P rv n f cur iv i) (fun _ _ i' _ => k - (intOf i').toNat)
  case atStart => exact ⟨0, _, _, _, _, rfl, by omega, F0.out⟩
  case round =>
    clear F0
    obtain ⟨i, P, rv, n, f, rfl, hi, hst⟩ := hrel
    by_cases hlt : i < k
    · obtain ⟨rfl, hgl⟩ := HG.out (by omega)
      have hil : (i : Int) < k := by omega
      have q0 := (hst.fr.below.cell (p := ⟨g, off + i, none⟩) hgl).trans (HC.out i hlt)
      obtain ⟨P', hP', CP⟩ := hst.step (by omega) (HRD.out i hlt)
      obtain ⟨ai, ci, ei⟩ := (HRD.out i hlt).slice
      rw [ei] at q0 CP
      have CPH := Lib.hid CP
      clear CP hst hP' ei
      go_wp2_with fail
      refine CPH.out.mono ?_
      rintro e w3 ⟨rfl, rv', f3, b3⟩
      have F3 := Lib.hid f3
      clear f3 b3
      go_wp2
      exact ⟨⟨i + 1, P', rv', _, _, rfl, by omega, F3.out⟩, by simp [intOf]; omega⟩
    · have hil : ¬ (i : Int) < k := by omega
      obtain rfl : i = k := by omega
      have M0 := Lib.hid (show MgS w wr w.heap.size i T cur P rv n f cur iv (.slice none 0 0) [] by rw [HT.out]; exact MgS.zero hst HCP.out)
      clear hst hlt
      go_wp2_with fail
      go_loopw [8, 9] (fun v' _ wx => ∃ (rv : Value) (n : Nat) (f : Nat → Nat) (c : Nat → List Sp) (j : Nat → Value) (out : List Sp), MgS w wx w.heap.size i T cur P rv n f c j v' out) (fun v' _ _ => T - slLen v')
      case atStart => exact ⟨_, _, _, _, _, _, M0.out⟩
      case round =>
        clear M0
        obtain ⟨rv, n, f, c, j, out, hm⟩ := hrel
        obtain ⟨va, vc, hve⟩ := hm.sl.slice
        subst hve
        have LN := Lib.hid (flen_FrS hm.fr)
        cases n with
        | zero =>
          have DONE := Lib.hid (show kmg cur i T = out by
            have h0 : tot c i = 0 := tot_end c i fun q hq => by
              rcases Nat.eq_zero_or_pos (c q).length with h0 | h0
              · exact h0
              · obtain ⟨k, hk, _⟩ := (hm.has q).2 ⟨hq, h0⟩
                exact absurd hk (Nat.not_lt_zero _)
            have := hm.all
            rw [h0] at this
            simpa [kmg] using this)
          have HM := Lib.hid hm
          clear hm
          go_wp2_with fail
          refine LN.out.mono ?_
          rintro e w2 ⟨rfl, rfl⟩
          go_wp2
          go_ret
          exact ⟨_, rfl, by rw [DONE.out]; exact HM.out.sl, HM.out.fr.below⟩
        | succ m =>
          have PO := Lib.hid (hpop_FrS hm.fr (by have := hm.le; omega))
          have hm1 : (0 : Int) < ((m + 1 : Nat) : Int) := by omega
          have HM := Lib.hid hm
          clear hm
          go_wp2_with fail
          refine LN.out.mono ?_
          rintro e w2 ⟨rfl, rfl⟩
          have hta := fun W v => asrt_S W v
          go_wp2_with fail
          refine PO.out.mono ?_
          rintro e w1 ⟨rfl, rv1, f1, b1, o1⟩
          obtain ⟨g2, off2, cap2, x, xs, hx, ei, hcl, hFP, hbox, ⟨hg2, c0, c1⟩, sl1, hri⟩ := HM.out.top b1
          obtain ⟨q, hq⟩ : ∃ q, q = P (f 0) := ⟨_, rfl⟩
          have hL1 : (c (f 0)).length = xs.length + 1 := by rw [hx]; rfl
          rw [ei, hL1, ← hq] at hbox
          rw [hL1] at hcl
          obtain ⟨L, hL⟩ : ∃ L, L = xs.length := ⟨_, rfl⟩
          rw [← hL] at hbox hcl
          obtain ⟨xt, hxt⟩ : ∃ xt, xt = x.t := ⟨_, rfl⟩
          obtain ⟨xv, hxv⟩ : ∃ xv, xv = x.v := ⟨_, rfl⟩
          rw [← hxt] at c0
          rw [← hxv] at c1
          obtain ⟨N, hN⟩ : ∃ N, N = out.length := ⟨_, rfl⟩
          rw [← hN] at sl1
          rw [← hq, ← hN]
          have hqw : q < w1.heap.size := (Array.getElem?_eq_some_iff.1 hbox).1
          have hwq : w.heap.size < q := by rw [hq]; exact hFP
          obtain ⟨Y, hY⟩ : ∃ Y, Y = w1.alloc (.cells #[.int .i64 xt, .int .u64 xv] 34) := ⟨_, rfl⟩
          have bY : Below w1.heap.size w1 Y := by rw [hY]; exact (Below.refl _ _).alloc (Nat.le_refl _) _
          have slY : Sl Y w.heap.size 2 (.slice va N vc) N (spc out) := sl1.on bY
          have hboxY := (bY.block q hqw).trans hbox
          have hqY : q < Y.heap.size := (Array.getElem?_eq_some_iff.1 hboxY).1
          have litY : ∀ j u, [Value.int .i64 xt, .int .u64 xv][j]? = some u → Y.cell? ((⟨w1.heap.size, 0, none⟩ : Addr).add j) = some u := by
            have := (Sl.lit w1 0 2 1 #[.int .i64 xt, .int .u64 xv] 34 (Nat.zero_le _) (by decide) rfl).cells
            rw [hY]; exact this
          have hNT : N + 1 ≤ T := by
            have h1 := HM.out.cnt
            have h2 := tot_upd c (f 0) i ((HM.out.has (f 0)).1 ⟨0, by omega, rfl⟩).1 (by rw [hx]; simp)
            omega
          have hvq : ∀ k, (Value.slice va N vc).ownBlock = some k → k ≠ q := fun k hk e => (HM.out.own k (by rw [← hN]; exact hk)).2.2 (f 0) ⟨0, by omega, rfl⟩ (by rw [e, hq])
          have HE := Lib.hid (fun v' w5 (hx5 : Ext w.heap.size 2 Y (.slice va N vc) N (spc out) w5 v' (N + 1) (spc out ++ [.int .i64 xt, .int .u64 xv])) => show (∃ a c, v' = .slice a (N + 1) c) ∧ w5.cell? ⟨q, 1, none⟩ = some (.slice (some ⟨g2, off2, none⟩) (L + 1) cap2) ∧ w5.frozen? ⟨q, 1, none⟩ = false from
            ⟨hx5.now.slice, (hx5.cell_old ⟨q, 1, none⟩ hqY hvq).trans (Lib.cell_of_heap hboxY 1), (hx5.frozen_old ⟨q, 1, none⟩ hqY hvq).trans (Lib.frozen_of_heap hboxY 1)⟩)
          have HQ := Lib.hid hq; have HL := Lib.hid hL; have HXT := Lib.hid hxt; have HXV := Lib.hid hxv; have HN := Lib.hid hN
          have HX := Lib.hid hx; have HRI := Lib.hid hri; have F1 := Lib.hid f1; have BB1 := Lib.hid b1; have O1 := Lib.hid o1
          have HY := Lib.hid hY
          have BY := Lib.hid bY
          have e1 := Lib.cell_of_heap hbox 1
          simp at e1
          have z1 : w.heap.size ≤ Y.heap.size := by omega
          have pL : (0 : Int) < (L : Int) + 1 := by omega
          have pL2 : (1 : Int) ≤ (L : Int) + 1 := by omega
          have pL3 : (L : Int) + 1 ≤ (cap2 : Int) := by omega
          have hXX : [Value.int .i64 xt, .int .u64 xv] = [.int .i64 x.t, .int .u64 x.v] := by rw [hxt, hxv]
          have hMo := HM.out
          rw [← hN] at hMo
          have hone : ∀ v ∈ [Value.int .i64 xt, .int .u64 xv], v.oneCell' = true := by rw [hxt, hxv]; exact HM.out.one hx
          have hri' : ∀ a cp, (0 < L → a = some ⟨g2, off2 + 2, none⟩) → Rd w 2 (.slice a L cp) L (spc xs) := fun a cp ha => by
            have := hri a cp (by rw [hL] at ha; exact ha)
            rw [← hL] at this
            exact this
          have PUT := Lib.hid (fun (v' : Value) (w5 : World) (hx5 : Ext w.heap.size 2 Y (.slice va N vc) N (spc out) w5 v' (N + 1) (spc out ++ [.int .i64 xt, .int .u64 xv])) (a : Option Addr) (cp : Nat) (ha : 0 < L → a = some ⟨g2, off2 + 2, none⟩) (hcp : L ≤ cp) => MgS.put hMo hk f1 b1 o1 BY.out hN hx hq hL hXX hx5 (hri' a cp ha) hcp)
          clear hXX hMo hri' hq hL hxt hxv hN hx hri f1 b1 o1 ei hL1 hFP hY bY sl1 hbox hvq
          go_wp2_with (at_builtin; rw [← HY.out]; refine wpList_append_sl _ rfl _ _ 41 rfl w.heap.size 34 i0 (.agg #[.int .i64 0, .int .u64 0]) 2 16 Tryz.underlying41 Hi.out Hz.out Hs.out Hb.out rfl (by decide) _ N _ rfl slY ⟨w1.heap.size, 0, none⟩ 1 1 [.int .i64 xt, .int .u64 xv] rfl rfl litY hone (by unfold maxLen; omega) (by omega) z1 ?_; intro v' w5 hx5; obtain ⟨⟨a5, c5, rfl⟩, p1, pf1⟩ := HE.out v' w5 hx5)
          all_goals
            refine (PUT.out _ _ hx5 _ _ (by first | (intro _; rfl) | (intro h; omega)) (by omega)).mono ?_
            rintro e w4 ⟨rfl, rv2, n2, f2, c2, j2, hm2⟩
            have HM2 := Lib.hid hm2
            clear hm2 PUT
            go_wp2
            exact ⟨⟨rv2, n2, f2, c2, j2, out ++ [x], HM2.out⟩, by have := HN.out; simp [slLen]; omega⟩
end Go.Proofs.YtfckgcckpfklaaaGreatDoor

/- Layer 20, the document's own plan of a free block, walked. -/
import Derived.Test.YtkialkjhjenkhaaMPLZ
namespace Go.Proofs.Ytkialkjhjenkhaa
open Go.RowKit Go.Lib
set_option linter.unusedVariables false

def frQ (qs : List Mq) : Int := match qs with | [] => 0 | q :: _ => q.m.mn
theorem frQ_snoc (acc : List Mq) (q : Mq) (h : acc ≠ []) : frQ (acc ++ [q]) = frQ acc := by
  cases acc with
  | nil => exact absurd rfl h
  | cons x l => rfl
structure TryP (w wr : World) (fr to lv : Int) (acc : List Mq) (vL : Value) (n : Nat) : Prop where
  box : wr.heap[w.heap.size + 1]? = some (.cells #[.int .i64 fr, .int .i64 to, .int .i64 lv, vL] 38 (0, 0))
  res : wr.heap[w.heap.size]? = some (.cells #[.int .i64 0, .int .i64 0, .int .i64 0, .slice none 0 0] 38)
  sl : Sl wr (w.heap.size + 2) 8 vL n (msc acc)
  below : Below w.heap.size w wr
  big : w.heap.size + 2 ≤ wr.heap.size
abbrev TryL (w wr : World) (acc : List Mq) (vL : Value) (n : Nat) : Prop := TryP w wr (frQ acc) (toQ acc) (lvQ acc) acc vL n
theorem TryP.alloc {w wr : World} {fr to lv : Int} {acc : List Mq} {vL : Value} {n : Nat} (h : TryP w wr fr to lv acc vL n) (o : Obj) : TryP w (wr.alloc o) fr to lv acc vL n := by
  have hb := h.big
  exact ⟨(Below.heap_alloc wr o _ (by omega)).trans h.box, (Below.heap_alloc wr o _ (by omega)).trans h.res, h.sl.alloc o, h.below.alloc h.below.size o, by simp; omega⟩
/-- The block's own two times are put into the plan. -/
theorem TryP.two {w wr : World} {fr to lv : Int} {acc : List Mq} {vL : Value} {n : Nat} (h : TryP w wr fr to lv acc vL n) (a b : Int) : TryP w ((wr.setCell ⟨w.heap.size + 1, 0, none⟩ (.int .i64 a)).setCell ⟨w.heap.size + 1, 1, none⟩ (.int .i64 b)) a b lv acc vL n := by
  have hb := h.big
  have k0 := heap_setCell_same wr (w.heap.size + 1) 0 _ _ (.int .i64 a) h.box
  have k1 := heap_setCell_same _ (w.heap.size + 1) 1 _ _ (.int .i64 b) k0
  have tt : Turn (fun k => k = w.heap.size + 1) wr ((wr.setCell ⟨w.heap.size + 1, 0, none⟩ (.int .i64 a)).setCell ⟨w.heap.size + 1, 1, none⟩ (.int .i64 b)) := ((Turn.refl (fun k => k = w.heap.size + 1) wr).setCell ⟨w.heap.size + 1, 0, none⟩ (.int .i64 a) rfl).setCell ⟨w.heap.size + 1, 1, none⟩ (.int .i64 b) rfl
  exact ⟨k1, (tt.block w.heap.size (by omega) (by omega)).trans h.res, h.sl.turn tt (fun k hk e => by have := (h.sl.lt k hk).1; omega), h.below.trans (tt.below (by omega) (fun k hk => by omega)), Nat.le_trans (by omega) tt.size⟩
/-- Blocks that stand ahead of place k. -/
def Bef (qs : List Mq) (k : Nat) (acc : List Mq) : Prop := ∀ q ∈ acc, ∃ j, j < k ∧ qs[j]? = some q
theorem Bef.next {qs acc : List Mq} {k : Nat} (h : Bef qs k acc) : Bef qs (k + 1) acc := fun q hq => by
  obtain ⟨j, h1, h2⟩ := h q hq
  exact ⟨j, by omega, h2⟩
theorem Bef.mem {qs acc : List Mq} {k : Nat} (h : Bef qs k acc) : ∀ q ∈ acc, q ∈ qs := fun q hq => by
  obtain ⟨j, _, h2⟩ := h q hq
  exact List.mem_of_getElem? h2
theorem Bef.push {qs acc : List Mq} {k : Nat} {q : Mq} (h : Bef qs k acc) (hq : qs[k]? = some q) : Bef qs (k + 1) (acc ++ [q]) := fun x hx => by
  rcases List.mem_append.1 hx with hx | hx
  · exact h.next x hx
  · rw [List.mem_singleton.1 hx]
    exact ⟨k, by omega, hq⟩
theorem Bef.fr {qs acc : List Mq} {k : Nat} {q : Mq} (h : Bef qs k acc) (hs : (qs.map Mq.m).Pairwise ltM) (hq : qs[k]? = some q) (hn : acc ≠ []) : min (frQ acc) q.m.mn = frQ (acc ++ [q]) := by
  cases acc with
  | nil => exact absurd rfl hn
  | cons x l =>
    obtain ⟨j, h1, h2⟩ := h x (List.mem_cons_self ..)
    obtain ⟨h3, h4⟩ := List.getElem?_eq_some_iff.1 h2
    obtain ⟨h5, h6⟩ := List.getElem?_eq_some_iff.1 hq
    have h7 := (List.pairwise_iff_getElem.1 hs) j k (by simpa using h3) (by simpa using h5) h1
    rw [List.getElem_map, List.getElem_map, h4, h6] at h7
    show min x.m.mn q.m.mn = x.m.mn
    rcases h7 with h7 | h7 <;> omega
theorem try_fin {w W0 : World} {fr to lv : Int} {acc : List Mq} {vL : Value} {n : Nat} (h : TryP w W0 fr to lv acc vL n) (x : Int) :
    ((((((W0.setCell ⟨w.heap.size + 1, 2, none⟩ (.int .i64 x)).setCell ⟨w.heap.size, 0, none⟩ (.int .i64 fr)).setCell ⟨w.heap.size, 1, none⟩ (.int .i64 to)).setCell ⟨w.heap.size, 2, none⟩ (.int .i64 x)).setCell ⟨w.heap.size, 3, none⟩ vL).drew).heap[w.heap.size]? = some (.cells #[.int .i64 fr, .int .i64 to, .int .i64 x, vL] 38 (0, 0)) ∧
    Turn (fun k => k = w.heap.size ∨ k = w.heap.size + 1) W0 ((((((W0.setCell ⟨w.heap.size + 1, 2, none⟩ (.int .i64 x)).setCell ⟨w.heap.size, 0, none⟩ (.int .i64 fr)).setCell ⟨w.heap.size, 1, none⟩ (.int .i64 to)).setCell ⟨w.heap.size, 2, none⟩ (.int .i64 x)).setCell ⟨w.heap.size, 3, none⟩ vL).drew) := by
  have h' := (Below.heap_setCell W0 ⟨w.heap.size + 1, 2, none⟩ (.int .i64 x) w.heap.size (by simp only; omega)).trans h.res
  have e := box4 (W0.setCell ⟨w.heap.size + 1, 2, none⟩ (.int .i64 x)) w.heap.size (.int .i64 0) (.int .i64 0) (.int .i64 0) (.slice none 0 0) (.int .i64 fr) (.int .i64 to) (.int .i64 x) vL 38 h'
  refine ⟨?_, ((((((Turn.refl (fun k => k = w.heap.size ∨ k = w.heap.size + 1) W0).setCell ⟨w.heap.size + 1, 2, none⟩ (.int .i64 x) (.inr rfl)).setCell ⟨w.heap.size, 0, none⟩ (.int .i64 fr) (.inl rfl)).setCell ⟨w.heap.size, 1, none⟩ (.int .i64 to) (.inl rfl)).setCell ⟨w.heap.size, 2, none⟩ (.int .i64 x) (.inl rfl)).setCell ⟨w.heap.size, 3, none⟩ vL (.inl rfl)).drew⟩
  rw [← e]; rfl
theorem turn_drewN9 (w : World) (n : Nat) : Turn (fun _ => False) w (w.drewN n) := ⟨rfl, rfl, rfl, Nat.le_refl _, fun _ _ _ => rfl⟩
theorem bel_drewN9 {B : Nat} {a w : World} (h : Below B a w) (n : Nat) : Below B a (w.drewN n) := ⟨h.os, h.tape, h.output, h.size, h.block⟩
theorem try_end {w W0 W' : World} {v vL : Value} {n : Nat} {qs acc : List Mq} (h : MsR w v qs) (td : TryL w W0 acc vL n) (hn : n = acc.length) (hmem : ∀ q ∈ acc, q ∈ qs) (t : Turn (fun k => k = w.heap.size ∨ k = w.heap.size + 1) W0 W') : MsR W' vL acc ∧ Below w.heap.size w W' := by
  have hb := td.big
  have key : ∀ {size m : Nat} {x : Value} {xs : List Value}, Rd w size x m xs → Rd W' size x m xs := by
    intro size m x xs hr
    refine (hr.on td.below).turnN t (fun hm k hk e => ?_)
    obtain ⟨g, hg, hlt⟩ := hr.own hm
    have : k = g := Option.some.inj (hk.symm.trans hg)
    omega
  refine ⟨⟨?_, fun q hq => ?_⟩, td.below.trans (t.below (by omega) (fun k hk => by omega))⟩
  · have h9 := (Rd.of_sl td.sl).turnN t (fun _ k hk e => by have := (td.sl.lt k hk).1; omega)
    subst hn
    exact h9
  · have hm := h.ok q (hmem q hq)
    exact ⟨key hm.1, key hm.2.1, hm.2.2⟩
theorem try_push {w W0 W1 w5 : World} {fr to lv : Int} {acc : List Mq} {vL v5 : Value} {n : Nat} {q : Mq} {o MO : Obj} (h : TryP w W1 fr to lv acc vL n) (hm : W1.heap[W0.heap.size]? = some MO) (hlt : W0.heap.size < W1.heap.size) (hown : ∀ k, vL.ownBlock = some k → k < W0.heap.size) (x : Ext (w.heap.size + 2) 8 (W1.alloc o) vL n (msc acc) w5 v5 (n + 1) (msc acc ++ mqc q)) :
    w5.heap[w.heap.size + 1]? = some (.cells #[.int .i64 fr, .int .i64 to, .int .i64 lv, vL] 38 (0, 0)) ∧ w5.heap[W0.heap.size]? = some MO ∧
      ∀ a b c, a = frQ (acc ++ [q]) → b = toQ (acc ++ [q]) → c = lvQ (acc ++ [q]) → TryL w ((((w5.setCell ⟨w.heap.size + 1, 3, none⟩ v5).setCell ⟨w.heap.size + 1, 0, none⟩ (.int .i64 a)).setCell ⟨w.heap.size + 1, 1, none⟩ (.int .i64 b)).setCell ⟨w.heap.size + 1, 2, none⟩ (.int .i64 c)) (acc ++ [q]) v5 (n + 1) := by
  have hb := h.big
  have h1 := h.alloc o
  have bb := x.below (B := w.heap.size + 2) (Nat.le_refl _) (by have := W1.heap.size; simp; omega)
  have e1 := (bb.block (w.heap.size + 1) (by omega)).trans h1.box
  have e0 := (bb.block w.heap.size (by omega)).trans h1.res
  refine ⟨e1, (x.grown.block W0.heap.size (by simp; omega) (fun e => by have := hown _ e.symm; omega)).trans ((Below.heap_alloc W1 o _ hlt).trans hm), ?_⟩
  rintro a b c rfl rfl rfl
  have k3 := heap_setCell_same w5 (w.heap.size + 1) 3 _ _ v5 e1
  have k0 := heap_setCell_same _ (w.heap.size + 1) 0 _ _ (.int .i64 (frQ (acc ++ [q]))) k3
  have k1 := heap_setCell_same _ (w.heap.size + 1) 1 _ _ (.int .i64 (toQ (acc ++ [q]))) k0
  have k2 := heap_setCell_same _ (w.heap.size + 1) 2 _ _ (.int .i64 (lvQ (acc ++ [q]))) k1
  have tt : Turn (fun k => k = w.heap.size + 1) w5 _ := ((((Turn.refl (fun k => k = w.heap.size + 1) w5).setCell ⟨w.heap.size + 1, 3, none⟩ v5 rfl).setCell ⟨w.heap.size + 1, 0, none⟩ (.int .i64 (frQ (acc ++ [q]))) rfl).setCell ⟨w.heap.size + 1, 1, none⟩ (.int .i64 (toQ (acc ++ [q]))) rfl).setCell ⟨w.heap.size + 1, 2, none⟩ (.int .i64 (lvQ (acc ++ [q]))) rfl
  have z5 := bb.size
  simp at z5
  refine ⟨k2, (tt.block w.heap.size (by omega) (by omega)).trans e0, ?_, (h1.below.trans (bb.mono (by omega))).trans (tt.below (by omega) (fun k hk => by omega)), Nat.le_trans (by omega) tt.size⟩
  rw [msc_append, show msc [q] = mqc q by simp [msc]]
  exact x.now.turn tt (fun k hk e => by have := (x.now.lt k hk).1; omega)
/-- A document's block in a slice: as MsR; its numbers small, and its two files. -/
def OkF (m : Mt.Me) : Prop := OkB m ∧ ∃ f g, m.files = [f, g]
set_option maxHeartbeats 20000000 in
set_option maxRecDepth 100000 in
theorem try_any (v : Value) (qs : List Mq) (i : Nat) (wd : Int) (p0 : Mq) (w : World) (h : MsR w v qs) (hp0 : qs[i]? = some p0) (hm : qs.length ≤ 1000) (hw : 1 ≤ wd ∧ wd ≤ 1000000) (hk : ∀ q ∈ qs, OkF q.m) (hs : (qs.map Mq.m).Pairwise ltM) :
    Calls Try.prog 24 #[v, .int .i64 i, .int .i64 wd] w fun e w' => ∃ v', e = .returned (.tuple #[.agg #[.int .i64 (frQ (tryQ wd (qs.drop i))), .int .i64 (toQ (tryQ wd (qs.drop i))), .int .i64 (min (lvQ (tryQ wd (qs.drop i)) + 1) 9), v'], .bool (decide (1 < (tryQ wd (qs.drop i)).length))]) ∧ MsR w' v' (tryQ wd (qs.drop i)) ∧ (∀ k, v'.ownBlock = some k → w.heap.size + 1 < k) ∧ Below w.heap.size w w' := by
  obtain ⟨i3, hi, hz0, hz1, hz2⟩ := info_parts zc_rmet
  have Mz := Lib.hid hz0; have Ms := Lib.hid hz1; have Mb := Lib.hid hz2; have Mi := Lib.hid hi
  clear hz0 hz1 hz2 hi
  have HH := Lib.hid h
  have HK := Lib.hid hk
  have HSRT := Lib.hid hs
  obtain ⟨_, ad, cap, g, off, rfl, hg, hc⟩ := h.rd
  have hi9 : i < qs.length := (List.getElem?_eq_some_iff.1 hp0).1
  obtain ⟨rfl, hgl⟩ := hg (by omega)
  have HQ := Lib.hid (fun W (bb : Below w.heap.size w W) j q (hq : qs[j]? = some q) => mq_at hc bb hgl j q hq)
  clear h hg hc hk hs
  have hpk := (HK.out p0 (List.mem_of_getElem? hp0)).1.1
  obtain ⟨r0, hr0⟩ : ∃ r0, r0 = p0.m.mn / wd := ⟨_, rfl⟩
  have hr1 : 0 ≤ r0 := by rw [hr0]; exact Int.ediv_nonneg hpk.1 (by omega)
  have hr2 : r0 ≤ 1000000 := by rw [hr0]; have := Int.ediv_le_self wd hpk.1; omega
  have ht0 : p0.m.mn.tdiv wd = r0 := by rw [hr0]; exact Int.tdiv_eq_ediv_of_nonneg hpk.1
  have wt0 : IntKind.i64.wrap r0 = r0 := IntWalk.i64_in _ (by omega)
  obtain ⟨R, hR⟩ : ∃ R, R = tryQ wd (qs.drop i) := ⟨_, rfl⟩
  have HR := Lib.hid (show R = tryG wd r0 (qs.drop i) ⟨0, 0, 0, 0⟩ [] from by
    rw [hR, List.drop_eq_getElem_cons hi9]
    have e : qs[i] = p0 := by rw [List.getElem?_eq_getElem hi9] at hp0; exact Option.some.inj hp0
    unfold tryQ
    simp only
    rw [e, ← hr0])
  rw [← hR]
  obtain ⟨-, z1, -⟩ := HQ.out (((w.alloc (.cells #[.int .i64 0, .int .i64 0, .int .i64 0, .slice none 0 0] 38)).alloc (.cells #[.int .i64 0, .int .i64 0, .int .i64 0, .slice none 0 0] 38))) ((((Below.refl _ _).alloc (Nat.le_refl _) _).alloc (by simp) _)) i p0 hp0
  obtain ⟨N, hN⟩ : ∃ N, N = qs.length := ⟨_, rfl⟩
  have HN := Lib.hid hN
  rw [← hN] at hm hi9 ⊢
  clear hN hR hr0 hp0
  have hiN : (i : Int) < N := by omega
  have hi0 : (0 : Int) ≤ i := by omega
  have hne : ¬ (wd = 0) := by omega
  have T0 := Lib.hid (show TryL w ((w.alloc (.cells #[.int .i64 0, .int .i64 0, .int .i64 0, .slice none 0 0] 38)).alloc (.cells #[.int .i64 0, .int .i64 0, .int .i64 0, .slice none 0 0] 38)) [] (.slice none 0 0) 0 from by
    have s1 : (w.alloc (.cells #[.int .i64 0, .int .i64 0, .int .i64 0, .slice none 0 0] 38)).heap.size = w.heap.size + 1 := by simp
    have b0 := heap_alloc_new (w.alloc (.cells #[.int .i64 0, .int .i64 0, .int .i64 0, .slice none 0 0] 38)) (.cells #[.int .i64 0, .int .i64 0, .int .i64 0, .slice none 0 0] 38)
    rw [s1] at b0
    exact ⟨b0, (Below.heap_alloc (w.alloc (.cells #[.int .i64 0, .int .i64 0, .int .i64 0, .slice none 0 0] 38)) _ _ (by omega)).trans (heap_alloc_new w _), Sl.nil _ _ _, ((Below.refl _ _).alloc (Nat.le_refl _) _).alloc (by omega) _, by simp⟩)
  go_enter Try.func24, Try.ntmps24
  go_wp2_with fail
  go_loopw [10, 11, 12, 13, 14] (fun y' s' a' fu' k' wr => ∃ (k n : Nat) (t : Tot) (acc : List Mq) (fu : Bool) (vL : Value), k' = .int .i64 k ∧ i ≤ k ∧ k ≤ N ∧ y' = .int .i64 t.y ∧ s' = .int .i64 t.s ∧ a' = .int .i64 t.a ∧ fu' = .bool fu ∧ Hid (n = acc.length) ∧ Hid (fu = false → t.Lo ∧ t.b = acc.length ∧ acc.length ≤ 20 ∧ tryG wd r0 (qs.drop k) t acc = R) ∧ Hid (fu = true → acc = R) ∧ Hid (Bef qs k acc) ∧ TryL w wr acc vL n) (fun _ _ _ _ k' _ => N - (RowKit.intOf k').toNat)
  case atStart => exact ⟨i, 0, ⟨0, 0, 0, 0⟩, [], false, _, rfl, Nat.le_refl _, by omega, rfl, rfl, rfl, rfl, rfl, Lib.hid (fun _ => ⟨by unfold Tot.Lo; simp, rfl, by simp, HR.out.symm⟩), Lib.hid (fun h => by cases h), Lib.hid (by intro q hq; cases hq), T0.out⟩
  case round =>
    clear T0
    obtain ⟨W0, rfl⟩ : ∃ W0, W0 = wr := ⟨_, rfl⟩
    obtain ⟨k, n, t, acc, fu, vL, rfl, hik, hkN, rfl, rfl, rfl, rfl, hn, hgo, hst, hmem, td⟩ := hrel
    by_cases hlt : k < N
    · have hil : (k : Int) < N := by omega
      have hil0 : (0 : Int) ≤ k := by omega
      have hkw : IntKind.i64.wrap ((k : Int) + 1) = (k : Int) + 1 := IntWalk.i64_in _ (by omega)
      cases fu
      · have hcond := (hgo.out rfl)
        obtain ⟨q, hq⟩ : ∃ q, qs[k]? = some q := ⟨_, List.getElem?_eq_getElem (by have := HN.out; omega)⟩
        have hmq := List.mem_of_getElem? hq
        have mq := (HH.out.ok q hmq).on td.below
        have hokf := HK.out q hmq
        have hqq := HQ.out W0 td.below k q hq
        have hdr : qs.drop k = q :: qs.drop (k + 1) := by
          obtain ⟨hlt', he⟩ := List.getElem?_eq_some_iff.1 hq
          rw [List.drop_eq_getElem_cons hlt', he]
        have HG := Lib.hid (show (if q.m.mn / wd ≠ r0 ∨ (r0 + 1) * wd < q.m.mx then tryG wd r0 (qs.drop (k + 1)) t acc else if (t.with q.m).fits then tryG wd r0 (qs.drop (k + 1)) (t.with q.m) (acc ++ [q]) else acc) = R from by rw [← hcond.2.2.2, hdr]; rfl)
        obtain ⟨fA, fB, hfl⟩ := hokf.2
        have hokb := hokf.1
        obtain ⟨m, vf, vs⟩ := q
        simp only at hfl hokb
        replace mq : MeR W0 m vf vs := mq
        have mf := mq.1
        rw [hfl] at mf
        obtain ⟨_, af', kf', gf, of', e9, hgf, hcf⟩ := mf
        subst e9
        obtain ⟨rfl, hgf1⟩ := hgf (by simp)
        obtain ⟨a3, ks, rfl⟩ := rd_form mq.2.1
        have hnf : m.files.length = 2 := by rw [hfl]; rfl
        obtain ⟨ns, hns⟩ : ∃ ns, ns = m.src.length := ⟨_, rfl⟩
        rw [← hns] at hqq HG
        obtain ⟨q0, q1, q2, q3, q4, q5, q6, q7⟩ := hqq
        simp only [List.length_cons, List.length_nil] at q0 q1 q2 q3 q4 q5 q6 q7 HG
        have TD1 := Lib.hid (td.alloc (.cells #[.string (bs m.id), .int .i64 m.mn, .int .i64 m.mx, .int .i64 m.lv, .int .i64 m.se, .int .i64 m.sa, .slice (some ⟨gf, of', none⟩) 2 kf', .slice a3 ns ks] 67))
        have HX := Lib.hid (heap_alloc_new W0 (.cells #[.string (bs m.id), .int .i64 m.mn, .int .i64 m.mx, .int .i64 m.lv, .int .i64 m.se, .int .i64 m.sa, .slice (some ⟨gf, of', none⟩) 2 kf', .slice a3 ns ks] 67))
        have HMQ := Lib.hid hmq
        obtain ⟨D, hD⟩ : ∃ D, D = m.mn / wd := ⟨_, rfl⟩
        rw [← hD] at HG
        have hmn := hokb.1; have hmx := hokb.2.1
        have htd : m.mn.tdiv wd = D := by rw [hD]; exact Int.tdiv_eq_ediv_of_nonneg hmn.1
        have wD : IntKind.i64.wrap D = D := IntWalk.i64_in _ (by
          have h1 : 0 ≤ m.mn / wd := Int.ediv_nonneg hmn.1 (by omega)
          have h2 : m.mn / wd ≤ m.mn := Int.ediv_le_self _ hmn.1
          omega)
        have wr1 : IntKind.i64.wrap (r0 + 1) = r0 + 1 := IntWalk.i64_in _ (by omega)
        have hU1 : 0 ≤ (r0 + 1) * wd := Int.mul_nonneg (by omega) (by omega)
        have hU2 : (r0 + 1) * wd ≤ 1000001 * 1000000 := Int.mul_le_mul (by omega) hw.2 (by omega) (by omega)
        obtain ⟨U, hU⟩ : ∃ U, U = (r0 + 1) * wd := ⟨_, rfl⟩
        have wU : IntKind.i64.wrap ((r0 + 1) * wd) = U := by rw [hU]; exact IntWalk.i64_in _ (by omega)
        rw [← hU] at HG
        have HLT := Lib.hid hcond
        have HQK := Lib.hid (show qs[k]? = some ⟨m, .slice (some ⟨gf, of', none⟩) 2 kf', .slice a3 ns ks⟩ from by rw [hns]; exact hq)
        have TDSL := Lib.hid td.sl
        have HNEB := Lib.hid (show ¬ (w.heap.size + 1 = W0.heap.size) from by have := td.big; omega)
        clear hcond td mq hq hdr hns hD hU hU1 hU2 hgf hmq
        by_cases hA : D = r0
        · have hA2 : (D != r0) = false := by simp [hA]
          by_cases hB : U < m.mx
          · have hG1 := HG.out
            rw [if_pos (.inr hB)] at hG1
            have HG1 := Lib.hid hG1
            clear hA hG1
            go_wp2_with fail
            exact ⟨⟨k + 1, n, t, acc, false, vL, by simp, by omega, by omega, rfl, rfl, rfl, rfl, hn, Lib.hid (fun _ => ⟨HLT.out.1, HLT.out.2.1, HLT.out.2.2.1, HG1.out⟩), Lib.hid (fun h => by cases h), Lib.hid hmem.out.next, TD1.out⟩, by simp [RowKit.intOf]; omega⟩
          · have hG1 := HG.out
            rw [if_neg (fun h => h.elim (fun h => h hA) (fun h => hB h))] at hG1
            have HG1 := Lib.hid hG1
            clear hA hG1
            have hsA : W0.cell? ⟨gf, of' + 1, none⟩ = some (.int .i64 fA.size) := hcf 1 (by simp)
            have hsB : W0.cell? ⟨gf, of' + 3 + 1, none⟩ = some (.int .i64 fB.size) := hcf 4 (by simp)
            have hsA' := ((Below.refl W0.heap.size W0).alloc (Nat.le_refl _) (.cells #[.string (bs m.id), .int .i64 m.mn, .int .i64 m.mx, .int .i64 m.lv, .int .i64 m.se, .int .i64 m.sa, .slice (some ⟨gf, of', none⟩) 2 kf', .slice a3 ns ks] 67)).cell (p := ⟨gf, of' + 1, none⟩) hgf1
            have hsB' := ((Below.refl W0.heap.size W0).alloc (Nat.le_refl _) (.cells #[.string (bs m.id), .int .i64 m.mn, .int .i64 m.mx, .int .i64 m.lv, .int .i64 m.se, .int .i64 m.sa, .slice (some ⟨gf, of', none⟩) 2 kf', .slice a3 ns ks] 67)).cell (p := ⟨gf, of' + 3 + 1, none⟩) hgf1
            rw [hsA] at hsA'
            rw [hsB] at hsB'
            have hb1 := hokb.2.2.2.2.2 1
            have hb2 := hokb.2.2.2.2.2 2
            rw [hfl] at hb1 hb2
            simp only [List.take_succ_cons, List.take_zero, sumF] at hb1 hb2
            have hse := hokb.2.2.2.1; have hsa := hokb.2.2.2.2.1
            obtain ⟨⟨_, _⟩, ⟨hy0, hy1⟩, ⟨hs0, hs1⟩, ha0, ha1⟩ := HLT.out.1
            obtain ⟨Y2, hY2⟩ : ∃ Y2, Y2 = t.y + (fA.size + fB.size) := ⟨_, rfl⟩
            obtain ⟨S2, hS2⟩ : ∃ S2, S2 = t.s + m.se := ⟨_, rfl⟩
            obtain ⟨A2, hA2'⟩ : ∃ A2, A2 = t.a + m.sa := ⟨_, rfl⟩
            have ws1 : IntKind.i64.wrap (fA.size + fB.size) = fA.size + fB.size := IntWalk.i64_in _ (by omega)
            have ws2 : IntKind.i64.wrap (t.y + (fA.size + fB.size)) = Y2 := by rw [hY2]; exact IntWalk.i64_in _ (by omega)
            have ws3 : IntKind.i64.wrap (t.s + m.se) = S2 := by rw [hS2]; exact IntWalk.i64_in _ (by omega)
            have ws4 : IntKind.i64.wrap (t.a + m.sa) = A2 := by rw [hA2']; exact IntWalk.i64_in _ (by omega)
            have HWI := Lib.hid (show t.with m = ⟨t.b + 1, Y2, S2, A2⟩ from by unfold Tot.with; rw [hfl, hY2, hS2, hA2']; simp [sumF])
            have HNF := Lib.hid (show (t.with m).fits = false → acc = R from fun hf => by have h9 := HG1.out; rw [hf] at h9; simpa using h9)
            have TDQ := Lib.hid (fun nq => show TryL w ((W0.alloc (.cells #[.string (bs m.id), .int .i64 m.mn, .int .i64 m.mx, .int .i64 m.lv, .int .i64 m.se, .int .i64 m.sa, .slice (some ⟨gf, of', none⟩) 2 kf', .slice a3 ns ks] 67)).drewN nq) acc vL n from ⟨TD1.out.box, TD1.out.res, TD1.out.sl.turn (turn_drewN9 _ nq) (fun _ _ => id), bel_drewN9 TD1.out.below nq, TD1.out.big⟩)
            obtain ⟨e0, e1, e2, e3, e4, e5, e6, e7⟩ := cells8 HX.out
            have hbp := TD1.out.box
            obtain ⟨aL, kL, rfl⟩ := TD1.out.sl.slice
            have p3 := Lib.cell_of_heap hbp 3
            have hlen20 : (n : Int) = 20 ↔ acc.length = 20 := by have := hn.out; omega
            clear hsA hsB hY2 hS2 hA2' hbp hb1 hb2 hcf hfl hnf
            by_cases hcy : 262144 < Y2
            · have HFF := Lib.hid (show (t.with m).fits = false from by rw [HWI.out]; unfold Tot.fits; simp; intros; omega)
              go_upto_region 12 with fail
              go_quiet (fail)
              go_wp2_with fail
              exact ⟨⟨k + 1, n, ⟨t.b + 1, Y2, S2, A2⟩, acc, true, _, by simp, by omega, by omega, rfl, rfl, rfl, rfl, hn, Lib.hid (fun h => by cases h), Lib.hid (fun _ => HNF.out (HFF.out)), Lib.hid hmem.out.next, TDQ.out nq⟩, by simp [RowKit.intOf]; omega⟩
            · by_cases hcs : 10000 < S2
              · have HFF := Lib.hid (show (t.with m).fits = false from by rw [HWI.out]; unfold Tot.fits; simp; intros; omega)
                go_upto_region 12 with fail
                go_quiet (fail)
                go_wp2_with fail
                exact ⟨⟨k + 1, n, ⟨t.b + 1, Y2, S2, A2⟩, acc, true, _, by simp, by omega, by omega, rfl, rfl, rfl, rfl, hn, Lib.hid (fun h => by cases h), Lib.hid (fun _ => HNF.out (HFF.out)), Lib.hid hmem.out.next, TDQ.out nq⟩, by simp [RowKit.intOf]; omega⟩
              · by_cases hca : 40000 < A2
                · have HFF := Lib.hid (show (t.with m).fits = false from by rw [HWI.out]; unfold Tot.fits; simp; intros; omega)
                  go_upto_region 12 with fail
                  go_quiet (fail)
                  go_wp2_with fail
                  exact ⟨⟨k + 1, n, ⟨t.b + 1, Y2, S2, A2⟩, acc, true, _, by simp, by omega, by omega, rfl, rfl, rfl, rfl, hn, Lib.hid (fun h => by cases h), Lib.hid (fun _ => HNF.out (HFF.out)), Lib.hid hmem.out.next, TDQ.out nq⟩, by simp [RowKit.intOf]; omega⟩
                · by_cases hc20 : n = 20
                  · have HFF := Lib.hid (show (t.with m).fits = false from by rw [HWI.out]; unfold Tot.fits; have h1 := HLT.out.2.1; have h2 := hn.out; simp; intros; omega)
                    have hbe : ((n : Int) == 20) = true := by rw [hc20]; rfl
                    have HC20 := Lib.hid hc20
                    clear hc20 hlen20
                    go_upto_region 12 with fail
                    go_quiet (fail)
                    go_wp2_with fail
                    exact ⟨⟨k + 1, n, ⟨t.b + 1, Y2, S2, A2⟩, acc, true, _, by simp, by omega, by omega, rfl, rfl, rfl, rfl, hn, Lib.hid (fun h => by cases h), Lib.hid (fun _ => HNF.out (HFF.out)), Lib.hid hmem.out.next, TDQ.out nq⟩, by simp [RowKit.intOf]; omega⟩
                  · have hb0 : ¬ (n = 20) := hc20
                    have hbe : ((n : Int) == 20) = false := by simp; omega
                    have HFT := Lib.hid (show (t.with m).fits = true from by rw [HWI.out]; unfold Tot.fits; have h1 := HLT.out.2.1; have h2 := hn.out; have h3 := HLT.out.2.2.1; simp; omega)
                    have HNEW := Lib.hid (show tryG wd r0 (qs.drop (k + 1)) (t.with m) (acc ++ [⟨m, .slice (some ⟨gf, of', none⟩) 2 kf', .slice a3 ns ks⟩]) = R from by have h9 := HG1.out; rw [if_pos HFT.out] at h9; exact h9)
                    have HLO2 := Lib.hid (show (t.with m).Lo ∧ (t.with m).b = (acc ++ [(⟨m, .slice (some ⟨gf, of', none⟩) 2 kf', .slice a3 ns ks⟩ : Mq)]).length ∧ (acc ++ [(⟨m, .slice (some ⟨gf, of', none⟩) 2 kf', .slice a3 ns ks⟩ : Mq)]).length ≤ 20 ∧ n + 1 = (acc ++ [(⟨m, .slice (some ⟨gf, of', none⟩) 2 kf', .slice a3 ns ks⟩ : Mq)]).length from ⟨HLT.out.1.with (HK.out _ (List.mem_of_getElem? HQK.out)).1 HFT.out, by have h1 := HLT.out.2.1; unfold Tot.with; simp; omega, by have h2 := hn.out; have h3 := HLT.out.2.2.1; simp; omega, by have h2 := hn.out; simp; omega⟩)
                    rw [HWI.out] at HLO2 HNEW
                    have HBEF := Lib.hid (hmem.out.push HQK.out)
                    have hn20' : n ≤ 20 := by have h2 := hn.out; have h3 := HLT.out.2.2.1; omega
                    have hn4 : n + 1 ≤ maxLen := by unfold maxLen; omega
                    have hn5 : (n + 1) * 104 ≤ 140737488355328 := by omega
                    have hbx := TD1.out.box
                    have hlo5 := Lib.hid (show ∀ k, (Value.slice aL n kL).ownBlock = some k → k < W0.heap.size from fun k hk => (TDSL.out.lt k hk).2)
                    have HMX := Lib.hid (fun nq => show ((W0.alloc (.cells #[.string (bs m.id), .int .i64 m.mn, .int .i64 m.mx, .int .i64 m.lv, .int .i64 m.se, .int .i64 m.sa, .slice (some ⟨gf, of', none⟩) 2 kf', .slice a3 ns ks] 67)).drewN nq).heap[W0.heap.size]? = some (.cells #[.string (bs m.id), .int .i64 m.mn, .int .i64 m.mx, .int .i64 m.lv, .int .i64 m.se, .int .i64 m.sa, .slice (some ⟨gf, of', none⟩) 2 kf', .slice a3 ns ks] 67) from HX.out)
                    have HSZ5 := Lib.hid (fun nq => show W0.heap.size < ((W0.alloc (.cells #[.string (bs m.id), .int .i64 m.mn, .int .i64 m.mx, .int .i64 m.lv, .int .i64 m.se, .int .i64 m.sa, .slice (some ⟨gf, of', none⟩) 2 kf', .slice a3 ns ks] 67)).drewN nq).heap.size from by show W0.heap.size < (W0.alloc (.cells #[.string (bs m.id), .int .i64 m.mn, .int .i64 m.mx, .int .i64 m.lv, .int .i64 m.se, .int .i64 m.sa, .slice (some ⟨gf, of', none⟩) 2 kf', .slice a3 ns ks] 67)).heap.size; simp)
                    have HBG5 := Lib.hid (fun nq => show w.heap.size + 2 ≤ (((W0.alloc (.cells #[.string (bs m.id), .int .i64 m.mn, .int .i64 m.mx, .int .i64 m.lv, .int .i64 m.se, .int .i64 m.sa, .slice (some ⟨gf, of', none⟩) 2 kf', .slice a3 ns ks] 67)).drewN nq).alloc (.cells #[.string (bs m.id), .int .i64 m.mn, .int .i64 m.mx, .int .i64 m.lv, .int .i64 m.se, .int .i64 m.sa, .slice (some ⟨gf, of', none⟩) 2 kf', .slice a3 ns ks] 67)).heap.size from by have := (TDQ.out nq).big; simp only [World.size_alloc]; omega)
                    have hne1 := HNEB.out
                    have hne2 : ¬ (W0.heap.size = w.heap.size + 1) := fun e => hne1 e.symm
                    clear hc20 hlen20 hb0
                    by_cases hn0 : n = 0
                    · have he0 : ((n : Int) == 0) = true := by rw [hn0]; rfl
                      have hacc : acc = [] := List.eq_nil_of_length_eq_zero (by have := hn.out; omega)
                      have HFR := Lib.hid (show m.mn = frQ (acc ++ [⟨m, .slice (some ⟨gf, of', none⟩) 2 kf', .slice a3 ns ks⟩]) from by rw [hacc]; rfl)
                      have HTO := Lib.hid (show m.mx = toQ (acc ++ [⟨m, .slice (some ⟨gf, of', none⟩) 2 kf', .slice a3 ns ks⟩]) from by rw [toQ_snoc, hacc]; show m.mx = max 0 m.mx; omega)
                      have HLV := Lib.hid (show max (lvQ acc) m.lv = lvQ (acc ++ [⟨m, .slice (some ⟨gf, of', none⟩) 2 kf', .slice a3 ns ks⟩]) from (lvQ_snoc acc ⟨m, .slice (some ⟨gf, of', none⟩) 2 kf', .slice a3 ns ks⟩).symm)
                      obtain ⟨FR, hFR⟩ : ∃ FR, FR = frQ acc := ⟨_, rfl⟩
                      obtain ⟨TO, hTO⟩ : ∃ TO, TO = toQ acc := ⟨_, rfl⟩
                      obtain ⟨LV, hLV⟩ : ∃ LV, LV = lvQ acc := ⟨_, rfl⟩
                      rw [← hFR, ← hTO, ← hLV] at hbx
                      rw [← hLV] at HLV
                      have TDQX := Lib.hid (fun nq => show TryP w ((((W0.alloc (.cells #[.string (bs m.id), .int .i64 m.mn, .int .i64 m.mx, .int .i64 m.lv, .int .i64 m.se, .int .i64 m.sa, .slice (some ⟨gf, of', none⟩) 2 kf', .slice a3 ns ks] 67)).drewN nq).setCell ⟨w.heap.size + 1, 0, none⟩ (.int .i64 m.mn)).setCell ⟨w.heap.size + 1, 1, none⟩ (.int .i64 m.mx)) m.mn m.mx LV acc (.slice aL n kL) n from by rw [hLV]; exact (TDQ.out nq).two m.mn m.mx)
                      have HMXZ := Lib.hid (fun nq => show ((((W0.alloc (.cells #[.string (bs m.id), .int .i64 m.mn, .int .i64 m.mx, .int .i64 m.lv, .int .i64 m.se, .int .i64 m.sa, .slice (some ⟨gf, of', none⟩) 2 kf', .slice a3 ns ks] 67)).drewN nq).setCell ⟨w.heap.size + 1, 0, none⟩ (.int .i64 m.mn)).setCell ⟨w.heap.size + 1, 1, none⟩ (.int .i64 m.mx)).heap[W0.heap.size]? = some (.cells #[.string (bs m.id), .int .i64 m.mn, .int .i64 m.mx, .int .i64 m.lv, .int .i64 m.se, .int .i64 m.sa, .slice (some ⟨gf, of', none⟩) 2 kf', .slice a3 ns ks] 67) from (Below.heap_setCell _ ⟨w.heap.size + 1, 1, none⟩ _ W0.heap.size (by simp only; omega)).trans ((Below.heap_setCell _ ⟨w.heap.size + 1, 0, none⟩ _ W0.heap.size (by simp only; omega)).trans (HMX.out nq)))
                      have HSZ5Z := Lib.hid (fun nq => show W0.heap.size < ((((W0.alloc (.cells #[.string (bs m.id), .int .i64 m.mn, .int .i64 m.mx, .int .i64 m.lv, .int .i64 m.se, .int .i64 m.sa, .slice (some ⟨gf, of', none⟩) 2 kf', .slice a3 ns ks] 67)).drewN nq).setCell ⟨w.heap.size + 1, 0, none⟩ (.int .i64 m.mn)).setCell ⟨w.heap.size + 1, 1, none⟩ (.int .i64 m.mx)).heap.size from by simp only [World.size_setCell]; exact HSZ5.out nq)
                      have HBG5Z := Lib.hid (fun nq => show w.heap.size + 2 ≤ (((((W0.alloc (.cells #[.string (bs m.id), .int .i64 m.mn, .int .i64 m.mx, .int .i64 m.lv, .int .i64 m.se, .int .i64 m.sa, .slice (some ⟨gf, of', none⟩) 2 kf', .slice a3 ns ks] 67)).drewN nq).setCell ⟨w.heap.size + 1, 0, none⟩ (.int .i64 m.mn)).setCell ⟨w.heap.size + 1, 1, none⟩ (.int .i64 m.mx)).alloc (.cells #[.string (bs m.id), .int .i64 m.mn, .int .i64 m.mx, .int .i64 m.lv, .int .i64 m.se, .int .i64 m.sa, .slice (some ⟨gf, of', none⟩) 2 kf', .slice a3 ns ks] 67)).heap.size from by have := (TDQX.out nq).big; simp only [World.size_alloc]; omega)
                      have hsz9 := fun nq => show ((((W0.alloc (.cells #[.string (bs m.id), .int .i64 m.mn, .int .i64 m.mx, .int .i64 m.lv, .int .i64 m.se, .int .i64 m.sa, .slice (some ⟨gf, of', none⟩) 2 kf', .slice a3 ns ks] 67)).drewN nq).setCell ⟨w.heap.size + 1, 0, none⟩ (.int .i64 m.mn)).setCell ⟨w.heap.size + 1, 1, none⟩ (.int .i64 m.mx)).heap.size = W0.heap.size + 1 from by simp only [World.size_setCell]; show (W0.alloc (.cells #[.string (bs m.id), .int .i64 m.mn, .int .i64 m.mx, .int .i64 m.lv, .int .i64 m.se, .int .i64 m.sa, .slice (some ⟨gf, of', none⟩) 2 kf', .slice a3 ns ks] 67)).heap.size = _; simp
                      have HSZ9 := Lib.hid hsz9
                      have p0' := Lib.cell_of_heap hbx 0; have p1' := Lib.cell_of_heap hbx 1; have p2' := Lib.cell_of_heap hbx 2
                      have f0' := Lib.frozen_of_heap hbx 0; have f1' := Lib.frozen_of_heap hbx 1
                      clear hn0 hbx hFR hTO hLV hacc hsz9
                      go_upto_region 12 with fail
                      go_quiet (fail)
                      go_wp2_with (first
                        | (at_builtin; go_loud (refine wpList_append_sl2 _ rfl _ _ 36 rfl (w.heap.size + 2) 67 i3 (.agg #[.string ⟨#[]⟩, .int .i64 0, .int .i64 0, .int .i64 0, .int .i64 0, .int .i64 0, .slice none 0 0, .slice none 0 0]) 8 104 Try.underlying36 Mi.out Mz.out Ms.out Mb.out rfl (by decide) _ n _ rfl ((TDQX.out nq).sl.alloc _) _ _ 1 _ rfl (Sl.litAt _ (W0.heap.size + 1) (HSZ9.out nq) (w.heap.size + 2) 8 1 #[.string (bs m.id), .int .i64 m.mn, .int .i64 m.mx, .int .i64 m.lv, .int .i64 m.se, .int .i64 m.sa, .slice (some ⟨gf, of', none⟩) 2 kf', .slice a3 ns ks] 67 (TDQX.out nq).big (by decide) rfl) (oneCell8 _ _ _ _ _ _ _ _ _ _ _ _) hn4 hn5 (HBG5Z.out nq) ?_; intro v5 w5 x5; obtain ⟨a5, k5, rfl⟩ := x5.now.slice; have H5 := Lib.hid (try_push (q := ⟨m, .slice (some ⟨gf, of', none⟩) 2 kf', .slice a3 ns ks⟩) (TDQX.out nq) (HMXZ.out nq) (HSZ5Z.out nq) hlo5.out x5); have hb5 := H5.out.1; have u0 := Lib.cell_of_heap hb5 0; have u1 := Lib.cell_of_heap hb5 1; have u2 := Lib.cell_of_heap hb5 2; have u3 := Lib.cell_of_heap hb5 3; have g0 := Lib.frozen_of_heap hb5 0; have g1 := Lib.frozen_of_heap hb5 1; have g2 := Lib.frozen_of_heap hb5 2; have g3 := Lib.frozen_of_heap hb5 3; obtain ⟨r0', r1', r2', r3', -⟩ := cells8 H5.out.2.1; clear x5 hb5))
                        | fail)
                      exact ⟨⟨k + 1, n + 1, ⟨t.b + 1, Y2, S2, A2⟩, acc ++ [⟨m, .slice (some ⟨gf, of', none⟩) 2 kf', .slice a3 ns ks⟩], false, _, by simp, by omega, by omega, rfl, rfl, rfl, rfl, Lib.hid HLO2.out.2.2.2, Lib.hid (fun _ => ⟨HLO2.out.1, HLO2.out.2.1, HLO2.out.2.2.1, HNEW.out⟩), Lib.hid (fun h => by cases h), HBEF, H5.out.2.2 _ _ _ HFR.out HTO.out HLV.out⟩, by simp [RowKit.intOf]; omega⟩
                    · have hne0 : ((n : Int) == 0) = false := by simp; omega
                      have HNE := Lib.hid (show acc ≠ [] from by have h2 := hn.out; intro e; rw [e] at h2; exact hn0 h2)
                      have HFR := Lib.hid (show min (frQ acc) m.mn = frQ (acc ++ [⟨m, .slice (some ⟨gf, of', none⟩) 2 kf', .slice a3 ns ks⟩]) from hmem.out.fr HSRT.out (q := ⟨m, .slice (some ⟨gf, of', none⟩) 2 kf', .slice a3 ns ks⟩) HQK.out HNE.out)
                      have HTO := Lib.hid (show max (toQ acc) m.mx = toQ (acc ++ [⟨m, .slice (some ⟨gf, of', none⟩) 2 kf', .slice a3 ns ks⟩]) from (toQ_snoc acc ⟨m, .slice (some ⟨gf, of', none⟩) 2 kf', .slice a3 ns ks⟩).symm)
                      have HLV := Lib.hid (show max (lvQ acc) m.lv = lvQ (acc ++ [⟨m, .slice (some ⟨gf, of', none⟩) 2 kf', .slice a3 ns ks⟩]) from (lvQ_snoc acc ⟨m, .slice (some ⟨gf, of', none⟩) 2 kf', .slice a3 ns ks⟩).symm)
                      obtain ⟨FR, hFR⟩ : ∃ FR, FR = frQ acc := ⟨_, rfl⟩
                      obtain ⟨TO, hTO⟩ : ∃ TO, TO = toQ acc := ⟨_, rfl⟩
                      obtain ⟨LV, hLV⟩ : ∃ LV, LV = lvQ acc := ⟨_, rfl⟩
                      rw [← hFR, ← hTO, ← hLV] at hbx
                      rw [← hFR] at HFR
                      rw [← hTO] at HTO
                      rw [← hLV] at HLV
                      have TDQX := Lib.hid (fun nq => show TryP w ((W0.alloc (.cells #[.string (bs m.id), .int .i64 m.mn, .int .i64 m.mx, .int .i64 m.lv, .int .i64 m.se, .int .i64 m.sa, .slice (some ⟨gf, of', none⟩) 2 kf', .slice a3 ns ks] 67)).drewN nq) FR TO LV acc (.slice aL n kL) n from by rw [hFR, hTO, hLV]; exact TDQ.out nq)
                      have p0' := Lib.cell_of_heap hbx 0; have p1' := Lib.cell_of_heap hbx 1; have p2' := Lib.cell_of_heap hbx 2
                      clear hn0 hbx hFR hTO hLV
                      go_upto_region 12 with fail
                      go_quiet (fail)
                      go_wp2_with (first
                        | (at_builtin; go_loud (refine wpList_append_sl2 _ rfl _ _ 36 rfl (w.heap.size + 2) 67 i3 (.agg #[.string ⟨#[]⟩, .int .i64 0, .int .i64 0, .int .i64 0, .int .i64 0, .int .i64 0, .slice none 0 0, .slice none 0 0]) 8 104 Try.underlying36 Mi.out Mz.out Ms.out Mb.out rfl (by decide) _ n _ rfl ((TDQX.out nq).sl.alloc _) _ _ 1 _ rfl (Sl.litAt ((W0.alloc (.cells #[.string (bs m.id), .int .i64 m.mn, .int .i64 m.mx, .int .i64 m.lv, .int .i64 m.se, .int .i64 m.sa, .slice (some ⟨gf, of', none⟩) 2 kf', .slice a3 ns ks] 67)).drewN nq) (W0.heap.size + 1) (by show (W0.alloc (.cells #[.string (bs m.id), .int .i64 m.mn, .int .i64 m.mx, .int .i64 m.lv, .int .i64 m.se, .int .i64 m.sa, .slice (some ⟨gf, of', none⟩) 2 kf', .slice a3 ns ks] 67)).heap.size = _; simp) (w.heap.size + 2) 8 1 #[.string (bs m.id), .int .i64 m.mn, .int .i64 m.mx, .int .i64 m.lv, .int .i64 m.se, .int .i64 m.sa, .slice (some ⟨gf, of', none⟩) 2 kf', .slice a3 ns ks] 67 (TDQX.out nq).big (by decide) rfl) (oneCell8 _ _ _ _ _ _ _ _ _ _ _ _) hn4 hn5 (HBG5.out nq) ?_; intro v5 w5 x5; obtain ⟨a5, k5, rfl⟩ := x5.now.slice; have H5 := Lib.hid (try_push (q := ⟨m, .slice (some ⟨gf, of', none⟩) 2 kf', .slice a3 ns ks⟩) (TDQX.out nq) (HMX.out nq) (HSZ5.out nq) hlo5.out x5); have hb5 := H5.out.1; have u0 := Lib.cell_of_heap hb5 0; have u1 := Lib.cell_of_heap hb5 1; have u2 := Lib.cell_of_heap hb5 2; have u3 := Lib.cell_of_heap hb5 3; have g0 := Lib.frozen_of_heap hb5 0; have g1 := Lib.frozen_of_heap hb5 1; have g2 := Lib.frozen_of_heap hb5 2; have g3 := Lib.frozen_of_heap hb5 3; obtain ⟨r0', r1', r2', r3', -⟩ := cells8 H5.out.2.1; clear x5 hb5))
                        | fail)
                      exact ⟨⟨k + 1, n + 1, ⟨t.b + 1, Y2, S2, A2⟩, acc ++ [⟨m, .slice (some ⟨gf, of', none⟩) 2 kf', .slice a3 ns ks⟩], false, _, by simp, by omega, by omega, rfl, rfl, rfl, rfl, Lib.hid HLO2.out.2.2.2, Lib.hid (fun _ => ⟨HLO2.out.1, HLO2.out.2.1, HLO2.out.2.2.1, HNEW.out⟩), Lib.hid (fun h => by cases h), HBEF, H5.out.2.2 _ _ _ HFR.out HTO.out HLV.out⟩, by simp [RowKit.intOf]; omega⟩
        · have hA2 : (D != r0) = true := by simp [hA]
          have hG1 := HG.out
          rw [if_pos (.inl hA)] at hG1
          have HG1 := Lib.hid hG1
          clear hA hG1
          go_wp2_with fail
          exact ⟨⟨k + 1, n, t, acc, false, vL, by simp, by omega, by omega, rfl, rfl, rfl, rfl, hn, Lib.hid (fun _ => ⟨HLT.out.1, HLT.out.2.1, HLT.out.2.2.1, HG1.out⟩), Lib.hid (fun h => by cases h), Lib.hid hmem.out.next, TD1.out⟩, by simp [RowKit.intOf]; omega⟩
      · have HACC := Lib.hid (show acc = R from hst.out rfl)
        have hbx := td.box
        have hre := td.res
        obtain ⟨aL, kL, rfl⟩ := td.sl.slice
        have hlvb := lvQ_le acc (fun q hq => (HK.out q (hmem.out.mem q hq)).1)
        have wlv : IntKind.i64.wrap (lvQ acc + 1) = lvQ acc + 1 := IntWalk.i64_in _ (by omega)
        obtain ⟨LV, hLV⟩ : ∃ LV, LV = lvQ acc := ⟨_, rfl⟩
        obtain ⟨TO, hTO⟩ : ∃ TO, TO = toQ acc := ⟨_, rfl⟩
        obtain ⟨FR, hFR⟩ : ∃ FR, FR = frQ acc := ⟨_, rfl⟩
        have HLVQ := Lib.hid hLV; have HTOQ := Lib.hid hTO; have HFRQ := Lib.hid hFR
        rw [← hLV, ← hTO, ← hFR] at hbx
        rw [← hLV] at wlv
        have c0 := Lib.cell_of_heap hbx 0; have c1 := Lib.cell_of_heap hbx 1; have c2 := Lib.cell_of_heap hbx 2; have c3 := Lib.cell_of_heap hbx 3
        have f2 := Lib.frozen_of_heap hbx 2
        have y0 := Lib.cell_of_heap hre 0; have y1 := Lib.cell_of_heap hre 1; have y2 := Lib.cell_of_heap hre 2; have y3 := Lib.cell_of_heap hre 3
        have z0 := Lib.frozen_of_heap hre 0; have z1' := Lib.frozen_of_heap hre 1; have z2 := Lib.frozen_of_heap hre 2; have z3 := Lib.frozen_of_heap hre 3
        have TDX := Lib.hid (show TryP w W0 FR TO LV acc (.slice aL n kL) n from by rw [hFR, hTO, hLV]; exact td)
        have TD := Lib.hid td
        have HMEM := Lib.hid hmem.out.mem
        have hbig := td.big
        clear td hbx hre hlvb hLV hTO hFR
        go_upto_region 25 with fail
        go_region
        obtain ⟨WX, hWX⟩ : ∃ WX, WX = ((((((W0.setCell ⟨w.heap.size + 1, 2, none⟩ (.int .i64 (min (LV + 1) 9))).setCell ⟨w.heap.size, 0, none⟩ (.int .i64 FR)).setCell ⟨w.heap.size, 1, none⟩ (.int .i64 TO)).setCell ⟨w.heap.size, 2, none⟩ (.int .i64 (min (LV + 1) 9))).setCell ⟨w.heap.size, 3, none⟩ (.slice aL n kL)).drew) := ⟨_, rfl⟩
        rw [← hWX]
        have FIN := Lib.hid (try_fin TDX.out (min (LV + 1) 9))
        rw [← hWX] at FIN
        clear hWX y0 y1 y2 y3 z0 z1' z2 z3 c0 c1 c2 c3 f2
        have y0 := Lib.cell_of_heap FIN.out.1 0; have y1 := Lib.cell_of_heap FIN.out.1 1; have y2 := Lib.cell_of_heap FIN.out.1 2; have y3 := Lib.cell_of_heap FIN.out.1 3
        repeat (first | go_values | go_skip | go_guarded | go_step | go_upon)
        refine bodyPost_ret (v := .tuple #[.agg #[.int .i64 FR, .int .i64 TO, .int .i64 (min (LV + 1) 9), .slice aL n kL], .bool (decide ((1 : Int) < (n : Int)))]) (by simp [results, Try.results24, go_sem, y0, y1, y2, y3]) rfl ?_
        obtain ⟨m9, b9⟩ := try_end HH.out TD.out hn.out HMEM.out FIN.out.2
        have hd : decide ((1 : Int) < (n : Int)) = decide (1 < R.length) := by rw [← HACC.out, ← hn.out, decide_eq_decide]; omega
        rw [hd, HFRQ.out, HTOQ.out, HLVQ.out, HACC.out]
        rw [HACC.out] at m9
        exact ⟨_, rfl, m9, fun k hk => (TD.out.sl.lt k hk).1, b9⟩
    · have hil : ¬ (k : Int) < N := by omega
      cases fu
      · have HACC := Lib.hid (show acc = R from by have h9 := (hgo.out rfl).2.2.2; rw [List.drop_of_length_le (by have := HN.out; omega)] at h9; exact h9)
        have hbx := td.box
        have hre := td.res
        obtain ⟨aL, kL, rfl⟩ := td.sl.slice
        have hlvb := lvQ_le acc (fun q hq => (HK.out q (hmem.out.mem q hq)).1)
        have wlv : IntKind.i64.wrap (lvQ acc + 1) = lvQ acc + 1 := IntWalk.i64_in _ (by omega)
        obtain ⟨LV, hLV⟩ : ∃ LV, LV = lvQ acc := ⟨_, rfl⟩
        obtain ⟨TO, hTO⟩ : ∃ TO, TO = toQ acc := ⟨_, rfl⟩
        obtain ⟨FR, hFR⟩ : ∃ FR, FR = frQ acc := ⟨_, rfl⟩
        have HLVQ := Lib.hid hLV; have HTOQ := Lib.hid hTO; have HFRQ := Lib.hid hFR
        rw [← hLV, ← hTO, ← hFR] at hbx
        rw [← hLV] at wlv
        have c0 := Lib.cell_of_heap hbx 0; have c1 := Lib.cell_of_heap hbx 1; have c2 := Lib.cell_of_heap hbx 2; have c3 := Lib.cell_of_heap hbx 3
        have f2 := Lib.frozen_of_heap hbx 2
        have y0 := Lib.cell_of_heap hre 0; have y1 := Lib.cell_of_heap hre 1; have y2 := Lib.cell_of_heap hre 2; have y3 := Lib.cell_of_heap hre 3
        have z0 := Lib.frozen_of_heap hre 0; have z1' := Lib.frozen_of_heap hre 1; have z2 := Lib.frozen_of_heap hre 2; have z3 := Lib.frozen_of_heap hre 3
        have TDX := Lib.hid (show TryP w W0 FR TO LV acc (.slice aL n kL) n from by rw [hFR, hTO, hLV]; exact td)
        have TD := Lib.hid td
        have HMEM := Lib.hid hmem.out.mem
        have hbig := td.big
        clear td hbx hre hlvb hLV hTO hFR
        go_upto_region 25 with fail
        go_region
        obtain ⟨WX, hWX⟩ : ∃ WX, WX = ((((((W0.setCell ⟨w.heap.size + 1, 2, none⟩ (.int .i64 (min (LV + 1) 9))).setCell ⟨w.heap.size, 0, none⟩ (.int .i64 FR)).setCell ⟨w.heap.size, 1, none⟩ (.int .i64 TO)).setCell ⟨w.heap.size, 2, none⟩ (.int .i64 (min (LV + 1) 9))).setCell ⟨w.heap.size, 3, none⟩ (.slice aL n kL)).drew) := ⟨_, rfl⟩
        rw [← hWX]
        have FIN := Lib.hid (try_fin TDX.out (min (LV + 1) 9))
        rw [← hWX] at FIN
        clear hWX y0 y1 y2 y3 z0 z1' z2 z3 c0 c1 c2 c3 f2
        have y0 := Lib.cell_of_heap FIN.out.1 0; have y1 := Lib.cell_of_heap FIN.out.1 1; have y2 := Lib.cell_of_heap FIN.out.1 2; have y3 := Lib.cell_of_heap FIN.out.1 3
        repeat (first | go_values | go_skip | go_guarded | go_step | go_upon)
        refine bodyPost_ret (v := .tuple #[.agg #[.int .i64 FR, .int .i64 TO, .int .i64 (min (LV + 1) 9), .slice aL n kL], .bool (decide ((1 : Int) < (n : Int)))]) (by simp [results, Try.results24, go_sem, y0, y1, y2, y3]) rfl ?_
        obtain ⟨m9, b9⟩ := try_end HH.out TD.out hn.out HMEM.out FIN.out.2
        have hd : decide ((1 : Int) < (n : Int)) = decide (1 < R.length) := by rw [← HACC.out, ← hn.out, decide_eq_decide]; omega
        rw [hd, HFRQ.out, HTOQ.out, HLVQ.out, HACC.out]
        rw [HACC.out] at m9
        exact ⟨_, rfl, m9, fun k hk => (TD.out.sl.lt k hk).1, b9⟩
      · have HACC := Lib.hid (show acc = R from hst.out rfl)
        have hbx := td.box
        have hre := td.res
        obtain ⟨aL, kL, rfl⟩ := td.sl.slice
        have hlvb := lvQ_le acc (fun q hq => (HK.out q (hmem.out.mem q hq)).1)
        have wlv : IntKind.i64.wrap (lvQ acc + 1) = lvQ acc + 1 := IntWalk.i64_in _ (by omega)
        obtain ⟨LV, hLV⟩ : ∃ LV, LV = lvQ acc := ⟨_, rfl⟩
        obtain ⟨TO, hTO⟩ : ∃ TO, TO = toQ acc := ⟨_, rfl⟩
        obtain ⟨FR, hFR⟩ : ∃ FR, FR = frQ acc := ⟨_, rfl⟩
        have HLVQ := Lib.hid hLV; have HTOQ := Lib.hid hTO; have HFRQ := Lib.hid hFR
        rw [← hLV, ← hTO, ← hFR] at hbx
        rw [← hLV] at wlv
        have c0 := Lib.cell_of_heap hbx 0; have c1 := Lib.cell_of_heap hbx 1; have c2 := Lib.cell_of_heap hbx 2; have c3 := Lib.cell_of_heap hbx 3
        have f2 := Lib.frozen_of_heap hbx 2
        have y0 := Lib.cell_of_heap hre 0; have y1 := Lib.cell_of_heap hre 1; have y2 := Lib.cell_of_heap hre 2; have y3 := Lib.cell_of_heap hre 3
        have z0 := Lib.frozen_of_heap hre 0; have z1' := Lib.frozen_of_heap hre 1; have z2 := Lib.frozen_of_heap hre 2; have z3 := Lib.frozen_of_heap hre 3
        have TDX := Lib.hid (show TryP w W0 FR TO LV acc (.slice aL n kL) n from by rw [hFR, hTO, hLV]; exact td)
        have TD := Lib.hid td
        have HMEM := Lib.hid hmem.out.mem
        have hbig := td.big
        clear td hbx hre hlvb hLV hTO hFR
        go_upto_region 25 with fail
        go_region
        obtain ⟨WX, hWX⟩ : ∃ WX, WX = ((((((W0.setCell ⟨w.heap.size + 1, 2, none⟩ (.int .i64 (min (LV + 1) 9))).setCell ⟨w.heap.size, 0, none⟩ (.int .i64 FR)).setCell ⟨w.heap.size, 1, none⟩ (.int .i64 TO)).setCell ⟨w.heap.size, 2, none⟩ (.int .i64 (min (LV + 1) 9))).setCell ⟨w.heap.size, 3, none⟩ (.slice aL n kL)).drew) := ⟨_, rfl⟩
        rw [← hWX]
        have FIN := Lib.hid (try_fin TDX.out (min (LV + 1) 9))
        rw [← hWX] at FIN
        clear hWX y0 y1 y2 y3 z0 z1' z2 z3 c0 c1 c2 c3 f2
        have y0 := Lib.cell_of_heap FIN.out.1 0; have y1 := Lib.cell_of_heap FIN.out.1 1; have y2 := Lib.cell_of_heap FIN.out.1 2; have y3 := Lib.cell_of_heap FIN.out.1 3
        repeat (first | go_values | go_skip | go_guarded | go_step | go_upon)
        refine bodyPost_ret (v := .tuple #[.agg #[.int .i64 FR, .int .i64 TO, .int .i64 (min (LV + 1) 9), .slice aL n kL], .bool (decide ((1 : Int) < (n : Int)))]) (by simp [results, Try.results24, go_sem, y0, y1, y2, y3]) rfl ?_
        obtain ⟨m9, b9⟩ := try_end HH.out TD.out hn.out HMEM.out FIN.out.2
        have hd : decide ((1 : Int) < (n : Int)) = decide (1 < R.length) := by rw [← HACC.out, ← hn.out, decide_eq_decide]; omega
        rw [hd, HFRQ.out, HTOQ.out, HLVQ.out, HACC.out]
        rw [HACC.out] at m9
        exact ⟨_, rfl, m9, fun k hk => (TD.out.sl.lt k hk).1, b9⟩
end Go.Proofs.Ytkialkjhjenkhaa

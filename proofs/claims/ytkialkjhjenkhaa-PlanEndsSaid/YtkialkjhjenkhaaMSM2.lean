/- Layer 20: a block more that has a plan's blocks as sources: the free ones are fewer. Plain maths. Layer 20: what is known at a turn of PlanEnds, and behind it. Appends in a drawn region: a copy of a slice, and one element more (as XVC has them, over few texts). -/
import Derived.Test.YtkialkjhjenkhaaMPLQ
import Derived.Test.YtkialkjhjenkhaaMPK3
import Derived.Test.YtkialkjhjenkhaaMM9
import Derived.Test.YtkialkjhjenkhaaMMB
namespace Go.Proofs.Ytkialkjhjenkhaa
open Go.RowKit Go.Lib
set_option linter.unusedVariables false

theorem nodup_len {α : Type} [DecidableEq α] : ∀ (a b : List α), a.Pairwise (fun x y => x ≠ y) → (∀ x ∈ a, x ∈ b) → a.length ≤ b.length
  | [], b, _, _ => Nat.zero_le _
  | x :: a, b, h, hs => by
    rw [List.pairwise_cons] at h
    have hx := hs x (List.mem_cons_self ..)
    have ih := nodup_len a (b.erase x) h.2 (fun y hy => (List.mem_erase_of_ne (fun e => h.1 y hy e.symm)).2 (hs y (List.mem_cons_of_mem _ hy)))
    have h3 := List.length_erase_of_mem hx
    have h4 := List.length_pos_of_mem hx
    rw [List.length_cons]; omega
theorem scan2_sub (wd : Int) (F S : List Mt.Me) (h : scan2 wd F = some S) : S.Sublist F ∧ 1 < S.length := by
  have key : ∀ W s, scanQ W (F.map noQ) = some s → (s.map Mq.m).Sublist F ∧ 1 < (s.map Mq.m).length := by
    intro W s hs
    obtain ⟨q, r, h1, rfl, h3⟩ := scan_tail W _ s hs
    refine ⟨?_, by rw [List.length_map]; exact h3⟩
    have h4 : (fstQ W (q :: r)).Sublist (q :: r) := by
      unfold fstQ
      have := fstG_sub W (frmOf W q.m.mn) (q :: r) ⟨0, 0, 0, 0⟩ []
      simpa using this
    have h5 := (h4.trans h1).map Mq.m
    have e : (F.map noQ).map Mq.m = F := by rw [List.map_map]; simp [noQ, Function.comp_def]
    rw [e] at h5
    exact h5
  unfold scan2 at h
  obtain ⟨s, hs, rfl⟩ := Option.map_eq_some_iff.1 h
  cases h1 : scanQ (3 * max wd 1) (F.map noQ) with
  | some t =>
    rw [h1] at hs
    have e : t = s := by simpa using hs
    rw [← e]
    exact key _ t h1
  | none =>
    rw [h1] at hs
    exact key _ s (by simpa using hs)
/-- A block more, made of free ones: what is free then, and these, are no more than what was free, and one. -/
theorem free_less (ms : List Mt.Me) (K : List (List UInt8)) (F S G : List Mt.Me) (me : Mt.Me) (hF : FreeIs ms K F) (hS : S.Sublist F) (hsrc : ∀ x ∈ S, x.id ∈ me.src) (hG : FreeIs (ms ++ [me]) K G) : G.length + S.length ≤ F.length + 1 := by
  classical
  have nd : ∀ l : List Mt.Me, l.Pairwise ltM → l.Pairwise (fun x y => x ≠ y) := fun l h => h.imp (fun {a b} h e => by subst e; exact ltM_irrefl _ h)
  have h1 : (G ++ S).Pairwise (fun x y => x ≠ y) := by
    rw [List.pairwise_append]
    refine ⟨nd G hG.1, nd S (hF.1.sublist hS), fun g hg s hs e => ?_⟩
    subst e
    exact ((hG.2 g).1 hg).2.1 ⟨me, List.mem_append_right _ (List.mem_singleton.2 rfl), hsrc g hs⟩
  have h2 : ∀ x ∈ G ++ S, x ∈ F ++ [me] := by
    intro x hx
    rcases List.mem_append.1 hx with hx | hx
    · obtain ⟨k1, k2, k3⟩ := (hG.2 x).1 hx
      rcases List.mem_append.1 k1 with k1 | k1
      · exact List.mem_append_left _ ((hF.2 x).2 ⟨k1, fun ⟨p, hp, h⟩ => k2 ⟨p, List.mem_append_left _ hp, h⟩, k3⟩)
      · exact List.mem_append_right _ k1
    · exact List.mem_append_left _ (hS.subset hx)
  have := nodup_len _ _ h1 h2
  rw [List.length_append, List.length_append, List.length_singleton] at this
  exact this
/-- What was planned is to be marked. -/
theorem tom_more (K : List (List UInt8)) (ms : List Mt.Me) (F S : List Mt.Me) (me : Mt.Me) (qs : List Mq) (hF : FreeIs ms K F) (hS : S.Sublist F) (hsrc : ∀ x ∈ S, x.id ∈ me.src) (hm : qs.map Mq.m = ms ++ [me]) (hk : me.id ∉ K) : S.length ≤ (tomQ K qs).length := by
  classical
  have nd : S.Pairwise (fun x y => x ≠ y) := (hF.1.sublist hS).imp (fun {a b} h e => by subst e; exact ltM_irrefl _ h)
  have h := nodup_len S ((tomQ K qs).map Mq.m) nd (fun x hx => by
    obtain ⟨k1, k2, k3⟩ := (hF.2 x).1 (hS.subset hx)
    have hx1 : x ∈ qs.map Mq.m := by rw [hm]; exact List.mem_append_left _ k1
    obtain ⟨q, hq, rfl⟩ := List.mem_map.1 hx1
    have hp1 : me ∈ qs.map Mq.m := by rw [hm]; exact List.mem_append_right _ (List.mem_singleton.2 rfl)
    obtain ⟨p, hp, hpe⟩ := List.mem_map.1 hp1
    refine List.mem_map.2 ⟨q, ?_, rfl⟩
    unfold tomQ
    refine List.mem_filter.2 ⟨?_, ?_⟩
    · unfold unmQ
      exact List.mem_filter.2 ⟨hq, by simpa using k3⟩
    · cases hsr : srcs (unmQ K qs) q.m.id with
      | true => rfl
      | false =>
        refine absurd ⟨me, List.mem_map.2 ⟨p, ?_, hpe⟩, hsrc q.m hx⟩ ((srcs_map (unmQ K qs) q.m.id).1 hsr)
        unfold unmQ
        exact List.mem_filter.2 ⟨hp, by rw [hpe]; simpa using hk⟩)
  rw [List.length_map] at h
  exact h
end Go.Proofs.Ytkialkjhjenkhaa

namespace Go.Proofs.Ytkialkjhjenkhaa
open Go.RowKit Go.Lib
set_option linter.unusedVariables false

/-- What is known of the listing at a turn. -/
structure EnI (W : World) (a9 : Option Addr) (n k9 mp T : Nat) (K : List (List UInt8)) (rs : List Mq) (F : List Mt.Me) : Prop where
  l : LstR W (.agg #[.int .i64 5, .slice a9 n k9, .map (some mp)]) 5 rs K
  n : n = rs.length
  up : UpQ rs
  ok : ∀ q ∈ rs, OkB q.m
  len : rs.length ≤ 12 + T
  lt : ∀ q ∈ rs, q.m.id < Idn.nam 2 T
  free : FreeIs (rs.map Mq.m) K F
  fl : F.length + T ≤ 12
theorem EnI.on {w w' : World} {a9 : Option Addr} {n k9 mp T : Nat} {K : List (List UInt8)} {rs : List Mq} {F : List Mt.Me} (h : EnI w a9 n k9 mp T K rs F) (b : Below w.heap.size w w') : EnI w' a9 n k9 mp T K rs F :=
  ⟨h.l.on b, h.n, h.up, h.ok, h.len, h.lt, h.free, h.fl⟩
theorem lst20_ends (v : Value) (l : List Og) (wd : Int) (w : World) (h : Rd w 5 v l.length (ogc l)) (hw : 1 ≤ wd ∧ wd ≤ 1000) :
    Calls Try.prog 7 #[v, .int .i64 wd] w fun e w' => ∃ a9 k9 n mp a8 k8 n8 K rs F, e = .returned (.tuple #[.agg #[.int .i64 5, .slice a9 n k9, .map (some mp)], .agg #[.int .i64 5, .slice a8 n8 k8]]) ∧ EnI w' a9 n k9 mp 0 K rs F ∧ (∀ T, T ≤ 1000 → Idn.nam 2 T ∉ K) ∧ Below w.heap.size w w' := by
  refine (listing20_any v l wd w h hw).mono ?_
  rintro e w1 ⟨⟨lv, v8, rs, ts, rfl, hl, hrm, hv8, htm, htk, hto⟩, b1⟩
  obtain ⟨ms, mp, rfl, hm1, hm2⟩ := hl
  obtain ⟨a9, k9, rfl⟩ := rd_form hm1.rd
  obtain ⟨a8, k8, rfl⟩ := rd_form hv8
  have hlen : rs.length ≤ 12 := by
    have := congrArg List.length hrm
    rw [List.length_map, msO_len wd l _ (Nat.min_le_left _ _)] at this
    omega
  have htl : ts.length = min l.length 12 := by
    have := congrArg List.length htm
    rw [List.length_map, msO_len wd l _ (Nat.min_le_left _ _)] at this
    exact this
  obtain ⟨hu, hks⟩ := told_is wd l (min l.length 12) (Nat.min_le_left _ _) (by omega) ts htm htk
  have hne : ts.Pairwise (fun a b => a.1.m.id ≠ b.1.m.id) := hu.imp (fun {a b} h e => by rw [e] at h; exact bytes_lt_irrefl _ h)
  have hfr := freeT_is ts (ksO l (min l.length 12)) hne hks
  rw [htm, ← hrm] at hfr
  refine ⟨a9, k9, _, mp, a8, k8, _, _, rs, _, rfl, ⟨⟨_, mp, rfl, hm1, hm2⟩, rfl, msO_up wd l _ (Nat.min_le_left _ _) (by omega) rs hrm, okO_all wd hw l _ rs hrm, by omega, fun q hq => ?_, hfr, ?_⟩, fun T hT hK => ?_, b1⟩
  · have hm : q.m ∈ msO wd l (min l.length 12) := by rw [← hrm]; exact List.mem_map_of_mem hq
    unfold msO at hm
    obtain ⟨k, hk1, hk⟩ := List.mem_filterMap.1 hm
    rw [List.mem_range] at hk1
    obtain ⟨x, _, e⟩ := Option.map_eq_some_iff.1 hk
    rw [← e]
    show Idn.nam 1 k < Idn.nam 2 0
    rw [Idn.nam_lt 1 k 2 0 (by decide) (by omega) (by decide) (by decide)]
    exact .inl (by decide)
  · rw [List.length_map]
    have := freeT_len ts ts
    omega
  · unfold ksO at hK
    rw [List.mem_filterMap] at hK
    obtain ⟨j, hj, hx⟩ := hK
    rw [List.mem_range] at hj
    cases hlj : l[j]? with
    | none => rw [hlj] at hx; cases hx
    | some y =>
      rw [hlj] at hx
      simp only at hx
      cases hy : y.md with
      | false => rw [hy] at hx; simp at hx
      | true =>
        rw [hy] at hx
        simp only [if_true, Option.some.injEq] at hx
        have := ((Idn.nam_eq 1 j 2 T (by decide) (by omega) (by decide) (by omega)).1 hx).1
        omega
/-- The block more. -/
def meN (ID : List UInt8) (pa pb pc : Int) (src : List (List UInt8)) : Mt.Me := ⟨ID, pa, pb, pc, 1, 1, [⟨[99, 104, 117, 110, 107, 115], 10, 0⟩, ⟨[105, 110, 100, 101, 120], 10, 0⟩], src⟩
theorem en_mer {W : World} {fb m k6 : Nat} {a6 : Option Addr} {ID : List UInt8} {pa pb pc : Int} {src : List (List UInt8)} (hfb : fb < W.heap.size)
    (f0 : W.cell? ⟨fb, 0, none⟩ = some (.string ⟨#[99, 104, 117, 110, 107, 115]⟩)) (f1 : W.cell? ⟨fb, 1, none⟩ = some (.int .i64 10)) (f2 : W.cell? ⟨fb, 2, none⟩ = some (.int .u32 0)) (f3 : W.cell? ⟨fb, 3, none⟩ = some (.string ⟨#[105, 110, 100, 101, 120]⟩)) (f4 : W.cell? ⟨fb, 4, none⟩ = some (.int .i64 10)) (f5 : W.cell? ⟨fb, 5, none⟩ = some (.int .u32 0))
    (hr : Rd W 1 (.slice a6 m k6) m (sc src)) (hm : m = src.length) (hm2 : m ≤ 1000000) : MeR W (meN ID pa pb pc src) (.slice (some ⟨fb, 0, none⟩) 2 2) (.slice a6 m k6) := by
  refine ⟨⟨rfl, some ⟨fb, 0, none⟩, 2, fb, 0, rfl, fun _ => ⟨rfl, hfb⟩, fun j hj => ?_⟩, by rw [hm] at hr ⊢; exact hr, by simp [meN], by rw [hm] at hm2; exact hm2⟩
  rw [Nat.zero_add]
  have : j = 0 ∨ j = 1 ∨ j = 2 ∨ j = 3 ∨ j = 4 ∨ j = 5 := by simp [meN] at hj; omega
  rcases this with rfl | rfl | rfl | rfl | rfl | rfl
  · exact f0
  · exact f1
  · exact f2
  · exact f3
  · exact f4
  · exact f5
theorem UpQ.push5 {rs : List Mq} {x : Mq} (h : UpQ rs) (hl : ∀ q ∈ rs, q.m.id < x.m.id) : UpQ (rs ++ [x]) := by
  intro i a b ha hb
  have hi := (List.getElem?_eq_some_iff.1 hb).1
  rw [List.length_append, List.length_singleton] at hi
  rw [List.getElem?_append_left (by omega)] at ha
  rcases Nat.lt_or_ge (i + 1) rs.length with h1 | h1
  · rw [List.getElem?_append_left h1] at hb; exact h i a b ha hb
  · rw [List.getElem?_append_right h1, show i + 1 - rs.length = 0 by omega] at hb
    simp only [List.getElem?_cons_zero, Option.some.injEq] at hb
    subst hb
    exact hl a (List.mem_of_getElem? ha)
theorem en_ok (ID : List UInt8) (src : List (List UInt8)) (S : List Mt.Me) (hS : S ≠ []) (h : ∀ x ∈ S, OkB x) : OkB (meN ID (frM S) (toM S) (lvM S) src) := by
  have hn : ∀ q ∈ S.map noQ, OkB q.m := fun q hq => by
    obtain ⟨x, hx, rfl⟩ := List.mem_map.1 hq
    exact h x hx
  have h1 : 0 ≤ frM S ∧ frM S ≤ 1000000 := by
    cases S with
    | nil => exact absurd rfl hS
    | cons x l => exact (h x (List.mem_cons_self ..)).1
  have h2 : 0 ≤ toM S ∧ toM S ≤ 1000000 := ⟨(toQ_ge (S.map noQ) 0).1, toQ_le (S.map noQ) 1000000 0 (by decide) (fun q hq => (hn q hq).2.1.2)⟩
  have h3 := lvQ_le (S.map noQ) hn
  have h4 : 0 ≤ lvM S ∧ lvM S ≤ 1000000 := by unfold lvM; omega
  refine ⟨h1, h2, h4, by simp [meN], by simp [meN], fun j => ?_⟩
  unfold meN
  simp only
  rcases (show j = 0 ∨ j = 1 ∨ 2 ≤ j by omega) with rfl | rfl | hj
  · simp [sumF]
  · simp [sumF]
  · rw [List.take_of_length_le (by simp; omega)]
    simp [sumF]
theorem en_store {w w11 : World} {b0 pb base : Nat} {K : List (List UInt8)} {rs2 : List Mq} {a11 : Option Addr} {k11 mp2 : Nat} {x0 x1 x2 : Value} {PO : Obj} {T : TypeId} (hl : LstR w11 (.agg #[.int .i64 5, .slice a11 rs2.length k11, .map (some mp2)]) 5 rs2 K) (hlo : LstLo base (.agg #[.int .i64 5, .slice a11 rs2.length k11, .map (some mp2)]) rs2) (hx : w11.heap[b0]? = some (.cells #[x0, x1, x2] T (0, 0))) (hb : b0 < base) (hp : w11.heap[pb]? = some PO) (hne : pb ≠ b0) (bw : Below w.heap.size w w11) (hbw : w.heap.size ≤ b0) :
    (((w11.setCell ⟨b0, 0, none⟩ (.int .i64 5)).setCell ⟨b0, 1, none⟩ (.slice a11 rs2.length k11)).setCell ⟨b0, 2, none⟩ (.map (some mp2))).heap[b0]? = some (.cells #[.int .i64 5, .slice a11 rs2.length k11, .map (some mp2)] T (0, 0)) ∧
    LstR (((w11.setCell ⟨b0, 0, none⟩ (.int .i64 5)).setCell ⟨b0, 1, none⟩ (.slice a11 rs2.length k11)).setCell ⟨b0, 2, none⟩ (.map (some mp2))) (.agg #[.int .i64 5, .slice a11 rs2.length k11, .map (some mp2)]) 5 rs2 K ∧
    (((w11.setCell ⟨b0, 0, none⟩ (.int .i64 5)).setCell ⟨b0, 1, none⟩ (.slice a11 rs2.length k11)).setCell ⟨b0, 2, none⟩ (.map (some mp2))).heap[pb]? = some PO ∧
    Below w.heap.size w (((w11.setCell ⟨b0, 0, none⟩ (.int .i64 5)).setCell ⟨b0, 1, none⟩ (.slice a11 rs2.length k11)).setCell ⟨b0, 2, none⟩ (.map (some mp2))) := by
  have k0 := heap_setCell_same w11 b0 0 _ _ (.int .i64 5) hx
  have k1 := heap_setCell_same _ b0 1 _ _ (.slice a11 rs2.length k11) k0
  have k2 := heap_setCell_same _ b0 2 _ _ (.map (some mp2)) k1
  have tt : Turn (fun k => k = b0) w11 (((w11.setCell ⟨b0, 0, none⟩ (.int .i64 5)).setCell ⟨b0, 1, none⟩ (.slice a11 rs2.length k11)).setCell ⟨b0, 2, none⟩ (.map (some mp2))) := (((Turn.refl (fun k => k = b0) w11).setCell ⟨b0, 0, none⟩ (.int .i64 5) rfl).setCell ⟨b0, 1, none⟩ (.slice a11 rs2.length k11) rfl).setCell ⟨b0, 2, none⟩ (.map (some mp2)) rfl
  have hb1 := (Array.getElem?_eq_some_iff.1 hx).1
  have hp1 := (Array.getElem?_eq_some_iff.1 hp).1
  obtain ⟨ms', mp', e, h1, h2⟩ := hl
  obtain ⟨t2, ms2, mp3, e2, o1, o2, o3⟩ := hlo
  have e3 : ms2 = .slice a11 rs2.length k11 ∧ mp3 = mp2 := by
    injection e2 with e2; injection e2 with e2
    simp only [List.cons.injEq, Value.map.injEq, Option.some.injEq, and_true] at e2
    exact ⟨e2.2.1.symm, e2.2.2.symm⟩
  have e4 : ms' = .slice a11 rs2.length k11 ∧ mp' = mp2 := by
    injection e with e; injection e with e
    simp only [List.cons.injEq, Value.map.injEq, Option.some.injEq, and_true] at e
    exact ⟨e.2.1.symm, e.2.2.symm⟩
  obtain ⟨rfl, rfl⟩ := e3
  obtain ⟨rfl, rfl⟩ := e4
  refine ⟨k2, ⟨_, _, rfl, h1.turnN tt (fun k hk e => by have := o1 k hk; omega) (fun q hq => ⟨fun k hk e => by have := (o3 q hq).1 k hk; omega, fun k hk e => by have := (o3 q hq).2 k hk; omega⟩), h2.turn tt (by omega)⟩, (tt.block pb hp1 hne).trans hp, bw.trans (tt.below bw.size (fun k hk => by omega))⟩
theorem en_next {W W0 : World} {a9 a11 : Option Addr} {n k9 mp k11 mp2 T : Nat} {K : List (List UInt8)} {rs rs2 : List Mq} {F G S : List Mt.Me} {me : Mt.Me} (h : EnI W0 a9 n k9 mp T K rs F) (hs : S.Sublist F) (h1 : 1 < S.length) (hid : me.id = Idn.nam 2 T) (hsrc : ∀ x ∈ S, x.id ∈ me.src) (hok : OkB me) (hrm : rs2.map Mq.m = rs.map Mq.m ++ [me]) (hl : LstR W (.agg #[.int .i64 5, .slice a11 rs2.length k11, .map (some mp2)]) 5 rs2 K) (hT : T ≤ 1000) (hG : FreeIs (rs2.map Mq.m) K G) :
    EnI W a11 rs2.length k11 mp2 (T + 1) K rs2 G := by
  have hln : rs2.length = rs.length + 1 := by have := congrArg List.length hrm; simpa using this
  have hupp : UpQ (rs ++ [noQ me]) := h.up.push5 (fun q hq => by show q.m.id < me.id; rw [hid]; exact h.lt q hq)
  have hmm : rs2.map Mq.m = (rs ++ [noQ me]).map Mq.m := by rw [hrm, List.map_append]; rfl
  have hmem : ∀ q ∈ rs2, (∃ q' ∈ rs, q'.m = q.m) ∨ q.m = me := fun q hq => by
    have h8 : q.m ∈ rs2.map Mq.m := List.mem_map_of_mem hq
    rw [hrm, List.mem_append] at h8
    rcases h8 with h8 | h8
    · obtain ⟨q', h9, h10⟩ := List.mem_map.1 h8; exact .inl ⟨q', h9, h10⟩
    · exact .inr (List.mem_singleton.1 h8)
  have hlt : Idn.nam 2 T < Idn.nam 2 (T + 1) := by
    rw [Idn.nam_lt 2 T 2 (T + 1) (by decide) (by omega) (by decide) (by omega)]
    exact .inr ⟨rfl, by omega⟩
  have hfl := h.fl
  have hlen := h.len
  have hG' := hG
  rw [hrm] at hG'
  have hless := free_less (rs.map Mq.m) K F S G me h.free hs hsrc hG'
  refine ⟨hl, rfl, hupp.of hmm, fun q hq => ?_, by omega, fun q hq => ?_, hG, by omega⟩
  · rcases hmem q hq with ⟨q', h9, h10⟩ | h9
    · rw [← h10]; exact h.ok q' h9
    · rw [h9]; exact hok
  · rcases hmem q hq with ⟨q', h9, h10⟩ | h9
    · rw [← h10]; exact bytes_lt_trans (h.lt q' h9) hlt
    · rw [h9, hid]; exact hlt
theorem en_rank {W W0 : World} {v : Value} {a9 : Option Addr} {n k9 mp T : Nat} {K : List (List UInt8)} {rs rs2 : List Mq} {F S : List Mt.Me} {me : Mt.Me} {r : Int} (h : EnI W0 a9 n k9 mp T K rs F) (hs : S.Sublist F) (h1 : 1 < S.length) (hsrc : ∀ x ∈ S, x.id ∈ me.src) (hrm : rs2.map Mq.m = rs.map Mq.m ++ [me]) (hl : LstR W v 5 rs2 K) (hup : UpQ rs2) (hm : rs2.length ≤ 1000) (hr : r = max ((F.length : Int) - 1) 0) :
    Calls Try.prog 14 #[v] W fun e w' => ∃ G r2, FreeIs (rs2.map Mq.m) K G ∧ e = .returned (.int .i64 r2) ∧ ¬ r2 ≥ r ∧ Below W.heap.size W w' := by
  refine (rank_any v 5 rs2 K W hl hup hm).mono ?_
  rintro e w' ⟨G, hG, rfl, b⟩
  have hG' := hG
  rw [hrm] at hG'
  have hless := free_less (rs.map Mq.m) K F S G me h.free hs hsrc hG'
  have := hs.length_le
  exact ⟨G, _, hG, rfl, by rw [hr]; omega, b⟩
theorem en_mark {W W0 : World} {v : Value} {a9 : Option Addr} {n k9 mp T m : Nat} {K : List (List UInt8)} {rs rs2 : List Mq} {F S : List Mt.Me} {me : Mt.Me} (h : EnI W0 a9 n k9 mp T K rs F) (hs : S.Sublist F) (hk : me.id ∉ K) (hsrc : ∀ x ∈ S, x.id ∈ me.src) (hrm : rs2.map Mq.m = rs.map Mq.m ++ [me]) (hl : LstR W v 5 rs2 K) (hup : UpQ rs2) (hm : rs2.length ≤ 1000) (hmS : m = S.length) :
    Calls Try.prog 12 #[v] W fun e w' => ∃ a N2 k, e = .returned (.slice a N2 k) ∧ ¬ ((N2 : Int) < (m : Int)) ∧ Below W.heap.size W w' := by
  refine (tomarkg_any v 5 rs2 K W hl hup hm).mono ?_
  rintro e w' ⟨v', rfl, sl, b⟩
  obtain ⟨a, k, rfl⟩ := sl.slice
  have h9 := tom_more K (rs.map Mq.m) F S me rs2 h.free hs hsrc hrm hk
  exact ⟨a, _, k, rfl, by rw [hmS]; omega, b⟩
end Go.Proofs.Ytkialkjhjenkhaa

namespace Go.Proofs.Ytkialkjhjenkhaa
open Go.RowKit Go.Lib
set_option linter.unusedVariables false

section
variable {P : Program}
theorem stp_append_rd {ops : Array Oper} {o : Oper} {a : Act} {w : World} {K : Act → World → Prop} {Q : Exit → Act → World → Prop} {E : Prop} (hgd : o.guard = none) (s x : Operand) (t : TypeId)
    (ho : o.op = .call { callee := .builtin .append, args := #[s, x], argTypes := #[t, t] })
    (base : Nat) (e : TypeId) (i : TypeInfo) (z : Value) (size bytes : Nat) (ht : P.underlying t = some (.slice e)) (hi : P.info? e = some i) (hz : i.zero = some z)
    (hsize : i.size = size) (hby : i.bytes = bytes) (hzs : z.cells.size = size) (hsz : 0 < size)
    (v : Value) (n : Nat) (xs : List Value) (hs : a.eval s = v) (hown : Sl w base size v n xs)
    (xv : Value) (m : Nat) (news : List Value) (hx : a.eval x = xv) (hnew : Rd w size xv m news) (h1 : ∀ u ∈ news, u.oneCell' = true)
    (h63 : n + m ≤ maxLen) (hbytes : (n + m) * bytes ≤ 140737488355328) (hbase : base ≤ w.heap.size)
    (h : ∀ v' w', Ext base size w v n xs w' v' (n + m) (xs ++ news) → K (a.put o.dst v') w') :
    if Region.wanted o (yielded ops a.tmps) = true then Oper.wp P o a w K Q else E := by
  obtain ⟨hl, ax, cap, g, off, rfl, hg, hc⟩ := hnew
  cases ax with
  | none =>
    have hm : m = 0 := by
      rcases Nat.eq_zero_or_pos m with h0 | h0
      · exact h0
      · have := (hg h0).1; cases this
    subst hm
    have hn : news = [] := List.eq_nil_of_length_eq_zero (by omega)
    subst hn
    have hw : Region.wanted o (yielded ops a.tmps) = true := by simp [Region.wanted, hgd]
    rw [if_pos hw]
    have hr := run_append_none_rd (P := P) w base cap t o.type e i size ht hi v n xs hown
    unfold Oper.wp execOp
    simp only [ho, resolve, invoke, builtin, Sem.run_bind, Sem.run_pure, Result.andThen_ok, List.map_toArray, List.map_cons, List.map_nil, hs, hx, hr]
    have := h v w
    rw [Nat.add_zero, List.append_nil] at this
    exact this (Ext.refl hown)
  | some ad =>
    refine step_append_sl hgd s x t ho base e i z size bytes ht hi hz hsize hby hzs hsz v n xs hs hown ad m cap news hx hl (fun j u hu => ?_) h1 h63 hbytes hbase h
    have hj : j < news.length := (List.getElem?_eq_some_iff.1 hu).1
    have hm : 0 < m := by
      rcases Nat.eq_zero_or_pos m with h0 | h0
      · subst h0; simp at hl; rw [hl] at hj; simp at hj
      · exact h0
    obtain ⟨he, _⟩ := hg hm
    obtain rfl : ad = ⟨g, off, none⟩ := Option.some.inj he
    rw [Addr.add_lit, hc j (by omega), hu]

theorem Sl.empty0 {wc : World} {base size g : Nat} (hb : base ≤ g) (hg : g < wc.heap.size) : Sl wc base size (.slice (some ⟨g, 0, none⟩) 0 0) 0 [] :=
  ⟨by simp, .inr ⟨g, 0, 0, rfl, hb, hg, Nat.le_refl _, by unfold maxLen; omega, fun j hj => by omega, fun j hj => by omega⟩⟩

theorem stp_app1 {ops : Array Oper} {o : Oper} {a : Act} {wc : World} {K : Act → World → Prop} {Q : Exit → Act → World → Prop} {E : Prop} (W : World) (s x : Operand) (t : TypeId) (hgd : o.guard = none)
    (ho : o.op = .call { callee := .builtin .append, args := #[s, x], argTypes := #[t, t] })
    (e : TypeId) (i : TypeInfo) (z : Value) (size bytes : Nat) (ht : P.underlying t = some (.slice e)) (hi : P.info? e = some i) (hz : i.zero = some z)
    (hsize : i.size = size) (hby : i.bytes = bytes) (hzs : z.cells.size = size) (hsz : 0 < size)
    (g0 : Nat) (hv : a.eval s = .slice (some ⟨g0, 0, none⟩) 0 0) (hg : W.heap.size ≤ g0) (hg2 : g0 < wc.heap.size)
    (xv : Value) (hxv : a.eval x = xv) (m : Nat) (news : List Value) (hnew : Rd W size xv m news) (h1 : ∀ u ∈ news, u.oneCell' = true) (h63 : m ≤ maxLen) (hbytes : m * bytes ≤ 140737488355328)
    (hb : Below W.heap.size W wc)
    (h : ∀ v5 w5, Sl w5 W.heap.size size v5 m news → Below W.heap.size W w5 → (∀ k ob, wc.heap[k]? = some ob → k ≠ g0 → w5.heap[k]? = some ob) → K (a.put o.dst v5) w5) :
    if Region.wanted o (yielded ops a.tmps) = true then Oper.wp P o a wc K Q else E := by
  refine stp_append_rd hgd s x t ho W.heap.size e i z size bytes ht hi hz hsize hby hzs hsz _ 0 [] hv (Sl.empty0 hg hg2) xv m news hxv (hnew.on hb) h1 (by omega) (by rw [Nat.zero_add]; exact hbytes) hb.size fun v' w' hx => ?_
  have n1 := hx.now
  rw [Nat.zero_add, List.nil_append] at n1
  refine h v' w' n1 (hb.trans (hx.below (Nat.le_refl _) hb.size)) fun k ob hk hne => ?_
  have hkl : k < wc.heap.size := (Array.getElem?_eq_some_iff.1 hk).1
  exact (hx.grown.block k hkl (fun e => hne (Option.some.inj e))).trans hk

theorem stp_app2 {ops : Array Oper} {o : Oper} {a : Act} {wc : World} {K : Act → World → Prop} {Q : Exit → Act → World → Prop} {E : Prop} (W : World) (s x : Operand) (t : TypeId) (hgd : o.guard = none)
    (ho : o.op = .call { callee := .builtin .append, args := #[s, x], argTypes := #[t, t] })
    (e : TypeId) (i : TypeInfo) (z : Value) (size bytes : Nat) (ht : P.underlying t = some (.slice e)) (hi : P.info? e = some i) (hz : i.zero = some z)
    (hsize : i.size = size) (hby : i.bytes = bytes) (hzs : z.cells.size = size) (hsz : 0 < size)
    (v : Value) (hv : a.eval s = v) (n : Nat) (xs : List Value) (hs : Sl wc W.heap.size size v n xs)
    (g1 : Nat) (hx : a.eval x = .slice (some ⟨g1, 0, none⟩) 1 1) (cs : Array Value) (T : TypeId) (hl : wc.heap[g1]? = some (.cells cs T)) (hcs : cs.size = size) (h1 : ∀ u ∈ cs.toList, u.oneCell' = true)
    (h63 : n + 1 ≤ maxLen) (hbytes : (n + 1) * bytes ≤ 140737488355328) (hb : Below W.heap.size W wc)
    (h : ∀ v6 w6, Sl w6 W.heap.size size v6 (n + 1) (xs ++ cs.toList) → Below W.heap.size W w6 → K (a.put o.dst v6) w6) :
    if Region.wanted o (yielded ops a.tmps) = true then Oper.wp P o a wc K Q else E := by
  refine step_append_sl hgd s x t ho W.heap.size e i z size bytes ht hi hz hsize hby hzs hsz v n xs hv hs ⟨g1, 0, none⟩ 1 1 cs.toList hx (by rw [Nat.one_mul, Array.length_toList]; exact hcs) (fun j u hu => ?_) h1 h63 hbytes hb.size fun v' w' hx' => h v' w' hx'.now (hb.trans (hx'.below (Nat.le_refl _) hb.size))
  rw [Addr.add_lit, Nat.zero_add]
  have := Lib.cell_of_heap hl j
  rw [this, ← hu]
  simp
end

end Go.Proofs.Ytkialkjhjenkhaa

/- Layer 20: free: plain maths of sorted blocks, the sort of nothing, and the call. -/
import Derived.Test.YtkialkjhjenkhaaMPLB
import Derived.Test.YtkialkjhjenkhaaMPLD
namespace Go.Proofs.Ytkialkjhjenkhaa
open Go.RowKit Go.Lib
set_option linter.unusedVariables false

theorem ltM_tri (x y : Mt.Me) (h : x.id ≠ y.id) (k : ¬ ltM y x) : ltM x y := by
  unfold ltM at *
  rcases Int.lt_trichotomy x.mn y.mn with e | e | e
  · exact .inl e
  · refine .inr ⟨e, ?_⟩
    rcases bytes_tri x.id y.id with e2 | e2 | e2
    · exact e2
    · exact absurd e2 h
    · exact absurd (.inr ⟨e.symm, e2⟩) k
  · exact absurd (.inl e) k
/-- A sorted list is its members. -/
theorem sorted_one : ∀ (a b : List Mt.Me), a.Pairwise ltM → b.Pairwise ltM → (∀ x, x ∈ a ↔ x ∈ b) → a = b
  | [], [], _, _, _ => rfl
  | [], y :: b, _, _, h => absurd ((h y).2 (List.mem_cons_self ..)) (by simp)
  | x :: a, [], _, _, h => absurd ((h x).1 (List.mem_cons_self ..)) (by simp)
  | x :: a, y :: b, ha, hb, h => by
    rw [List.pairwise_cons] at ha hb
    have e : x = y := by
      rcases List.mem_cons.1 ((h x).1 (List.mem_cons_self ..)) with e | e
      · exact e
      · rcases List.mem_cons.1 ((h y).2 (List.mem_cons_self ..)) with e2 | e2
        · exact e2.symm
        · exact absurd (ltM_trans (hb.1 x e) (ha.1 y e2)) (ltM_irrefl _)
    subst e
    rw [sorted_one a b ha.2 hb.2 (fun z => ?_)]
    constructor
    · intro hz
      rcases List.mem_cons.1 ((h z).1 (List.mem_cons_of_mem _ hz)) with e | e
      · exact absurd (ha.1 z hz) (e ▸ ltM_irrefl _)
      · exact e
    · intro hz
      rcases List.mem_cons.1 ((h z).2 (List.mem_cons_of_mem _ hz)) with e | e
      · exact absurd (hb.1 z hz) (e ▸ ltM_irrefl _)
      · exact e
/-- The free blocks of a listing, in their order. -/
def FreeIs (ms : List Mt.Me) (K : List (List UInt8)) (F : List Mt.Me) : Prop :=
  F.Pairwise ltM ∧ ∀ m, m ∈ F ↔ m ∈ ms ∧ (¬ ∃ p ∈ ms, m.id ∈ p.src) ∧ m.id ∉ K
theorem FreeIs.one {ms : List Mt.Me} {K : List (List UInt8)} {F G : List Mt.Me} (h : FreeIs ms K F) (k : FreeIs ms K G) : F = G :=
  sorted_one F G h.1 k.1 (fun x => (h.2 x).trans (k.2 x).symm)
theorem srcs_map (qs : List Mq) (x : List UInt8) : srcs qs x = false ↔ ¬ ∃ p ∈ qs.map Mq.m, x ∈ p.src := by
  unfold srcs
  rw [decide_eq_false_iff_not]
  simp
theorem UpQ.nodup {qs : List Mq} (h : UpQ qs) : (qs.map fun q => q.m.id).Pairwise (· < ·) := by
  induction qs with
  | nil => exact List.Pairwise.nil
  | cons x qs ih =>
    have hq : UpQ qs := fun i a b ha hb => h (i + 1) a b (by simpa using ha) (by simpa using hb)
    rw [List.map_cons, List.pairwise_cons]
    refine ⟨?_, ih hq⟩
    cases qs with
    | nil => simp
    | cons y qs =>
      have hxy := h 0 x y rfl rfl
      have := ih hq
      rw [List.map_cons, List.pairwise_cons] at this
      intro a ha
      rw [List.map_cons, List.mem_cons] at ha
      rcases ha with rfl | ha
      · exact hxy
      · exact bytes_lt_trans hxy (this.1 a ha)
theorem up_me {ms : List Mt.Me} (h : (ms.map Mt.Me.id).Pairwise (· < ·)) : ms.Pairwise (fun x y => x.id ≠ y.id) := by
  rw [List.pairwise_map] at h
  refine h.imp (fun {a b} hab => ?_)
  intro e
  rw [e] at hab
  exact bytes_lt_irrefl _ hab
/-- What the sort leaves is what is free. -/
theorem free_is (qs rs us : List Mq) (K : List (List UInt8)) (ds ds' : List Mz) (hup : UpQ qs) (hr : rs.map Mq.m = (liveQ qs qs).map Mq.m) (hu : us = unmQ K rs) (hd : us.map Mq.m = ds.map Mz.m) (hp : ds'.Perm ds) (hs : ds'.Pairwise (fun x y => ¬ ltM y.m x.m)) : FreeIs (qs.map Mq.m) K (ds'.map Mz.m) := by
  have hmem : ∀ m, m ∈ ds'.map Mz.m ↔ m ∈ qs.map Mq.m ∧ (¬ ∃ p ∈ qs.map Mq.m, m.id ∈ p.src) ∧ m.id ∉ K := by
    intro m
    rw [(hp.map Mz.m).mem_iff, ← hd, hu]
    have e1 : (unmQ K rs).map Mq.m = (rs.map Mq.m).filter (fun x => decide (x.id ∉ K)) := by
      unfold unmQ
      rw [List.filter_map]; rfl
    have e2 : (liveQ qs qs).map Mq.m = (qs.map Mq.m).filter (fun x => !srcs qs x.id) := by
      unfold liveQ
      rw [List.filter_map]; rfl
    rw [e1, hr, e2, List.mem_filter, List.mem_filter, ← srcs_map]
    simp [and_assoc]
  refine ⟨?_, hmem⟩
  have hid : (ds.map Mz.m).Pairwise (fun x y => x.id ≠ y.id) := by
    rw [← hd, hu]
    have e1 : (unmQ K rs).map Mq.m = (rs.map Mq.m).filter (fun x => decide (x.id ∉ K)) := by
      unfold unmQ
      rw [List.filter_map]; rfl
    have e2 : (liveQ qs qs).map Mq.m = (qs.map Mq.m).filter (fun x => !srcs qs x.id) := by
      unfold liveQ
      rw [List.filter_map]; rfl
    rw [e1, hr, e2]
    refine List.Pairwise.filter _ (List.Pairwise.filter _ (up_me ?_))
    have := hup.nodup
    rw [List.map_map]
    exact this
  have hid' : (ds'.map Mz.m).Pairwise (fun x y => x.id ≠ y.id) := ((hp.map Mz.m).symm.pairwise_iff (fun {a b} h e => h e.symm)).1 hid
  rw [List.pairwise_map] at hid' ⊢
  exact (hid'.and hs).imp (fun {a b} h => ltM_tri _ _ h.1 h.2)

theorem insn_z (p : Option Addr) (cap : Nat) (fv : Value) (w : World) :
    Calls Try.prog 66 #[.slice p 0 cap, .int .i64 0, .int .i64 0, fv] w fun e w' => e = .returned (.tuple #[]) ∧ w' = w := by
  go_enter Try.func66, Try.ntmps66
  go_wp2
  refine wp_loop_rounds 1 ?_
  rw [rounds_succ]
  go_wp2
  go_end0
  exact ⟨rfl, rfl⟩
theorem pdqn_z (p : Option Addr) (cap : Nat) (lim : Int) (fv : Value) (w : World) :
    Calls Try.prog 53 #[.slice p 0 cap, .int .i64 0, .int .i64 0, .int .i64 lim, fv] w fun e w' => e = .returned (.tuple #[]) ∧ w' = w := by
  have hi := Lib.hid (fun W => insn_z p cap fv W)
  go_enter Try.func53, Try.ntmps53
  go_wp2
  refine wp_loop_rounds 1 ?_
  rw [rounds_succ]
  go_wp2_with fail
  refine (hi.out _).mono ?_
  rintro e w' ⟨rfl, rfl⟩
  go_wp2
  (try simp only [Exit.inBlock, Exit.then])
  refine bodyPost_ret (results_none rfl _ _ _) rfl ?_
  exact ⟨rfl, rfl⟩
set_option maxHeartbeats 2000000 in
set_option maxRecDepth 100000 in
theorem sort_mz (v : Value) (ds : List Mz) (base : Nat) (w : World) (hs : Sl w base 8 v ds.length (zcs ds)) (hlen : ds.length ≤ 1000) :
    Calls Try.prog 40 #[v, .func (.func 41) #[] #[]] w fun e w' => e = .returned (.tuple #[]) ∧
      ∃ ds' : List Mz, ds'.Perm ds ∧ ds'.Pairwise (fun x y => ¬ ltM y.m x.m) ∧ Sl w' base 8 v ds.length (zcs ds') ∧ Turn (fun k => v.ownBlock = some k) w w' := by
  by_cases h0 : ds = []
  · subst h0
    have HS := Lib.hid hs
    obtain ⟨a, k, rfl⟩ := hs.slice
    have HP := Lib.hid (fun lim W => pdqn_z a k lim (.func (.func 41) #[] #[]) W)
    have HL := Lib.hid (fun W => len_any 0 W (by omega))
    clear hs
    go_enter Try.func40, Try.ntmps40
    go_wp2_with fail
    refine (HL.out _).mono ?_
    rintro e w1 ⟨rfl, rfl⟩
    go_wp2_with fail
    refine (HP.out _ _).mono ?_
    rintro e w1 ⟨rfl, rfl⟩
    go_wp2
    go_end0
    exact ⟨rfl, [], List.Perm.refl _, List.Pairwise.nil, HS.out, Turn.refl _ _⟩
  · exact sort_ms v ds base w hs hlen h0
theorem Rd.turnN {S : Nat → Prop} {w w' : World} {size n : Nat} {v : Value} {xs : List Value} (h : Rd w size v n xs) (t : Turn S w w') (hv : 0 < n → ∀ k, v.ownBlock = some k → ¬ S k) : Rd w' size v n xs := by
  obtain ⟨h0, a, cap, g, off, rfl, h1, h2⟩ := h
  refine ⟨h0, a, cap, g, off, rfl, fun hn => ⟨(h1 hn).1, Nat.lt_of_lt_of_le (h1 hn).2 t.size⟩, fun j hj => ?_⟩
  have hn : 0 < n := by
    rcases Nat.eq_zero_or_pos n with e | e
    · subst e; omega
    · exact e
  obtain ⟨rfl, hg⟩ := h1 hn
  exact (t.cell (p := ⟨g, off + j, none⟩) hg (hv hn g rfl)).trans (h2 j hj)
/-- Metas that are there are slices' heads: as the sort names them. -/
theorem mz_of {w : World} {us : List Mq} (h : ∀ q ∈ us, MeR w q.m q.vf q.vs) : ∃ ds : List Mz, ds.map Mz.q = us := by
  induction us with
  | nil => exact ⟨[], rfl⟩
  | cons x us ih =>
    obtain ⟨ds, hd⟩ := ih (fun q hq => h q (List.mem_cons_of_mem _ hq))
    have hx := h x (List.mem_cons_self ..)
    obtain ⟨a, c, e⟩ := rd_form hx.1
    obtain ⟨a', c', e'⟩ := rd_form hx.2.1
    obtain ⟨m, vf, vs⟩ := x
    simp only at e e'
    subst e e'
    exact ⟨⟨m, a, c, a', c'⟩ :: ds, by rw [List.map_cons, hd]; rfl⟩

theorem free_fin {w1 w2 w3 : World} {v1 v2 : Value} {rs : List Mq} {K : List (List UInt8)} {ds ds' : List Mz} (h1 : MsR w1 v1 rs) (b : Below w1.heap.size w1 w2) (hd : ds.map Mz.q = unmQ K rs) (hp : ds'.Perm ds) (hs : Sl w3 w1.heap.size 8 v2 ds.length (zcs ds')) (ht : Turn (fun k => v2.ownBlock = some k) w2 w3) : MsR w3 v2 (ds'.map Mz.q) := by
  refine ⟨?_, fun q hq => ?_⟩
  · have := Rd.of_sl hs
    rw [zcs_msc, ← hp.length_eq] at this
    rw [List.length_map]
    exact this
  · have hq2 : q ∈ rs := by
      have h9 := ((hp.map Mz.q).mem_iff (a := q)).1 hq
      rw [hd] at h9
      exact (List.mem_filter.1 h9).1
    have hm := h1.ok q hq2
    have key : ∀ {n size : Nat} {v : Value} {xs : List Value}, Rd w1 size v n xs → Rd w3 size v n xs := by
      intro n size v xs hr
      refine (hr.on b).turnN ht (fun hn k hk e => ?_)
      obtain ⟨g, hg, hlt⟩ := hr.own hn
      have h8 : k = g := Option.some.inj (hk.symm.trans hg)
      have h9 := (hs.lt k e).1
      omega
    exact ⟨key hm.1, key hm.2.1, hm.2.2⟩
theorem live_len (qs rs : List Mq) (h : rs.map Mq.m = (liveQ qs qs).map Mq.m) : rs.length ≤ qs.length := by
  have := congrArg List.length h
  rw [List.length_map, List.length_map] at this
  rw [this]
  exact List.length_filter_le _ _

set_option maxHeartbeats 2000000 in
set_option maxRecDepth 100000 in
theorem free_any (v : Value) (t : Int) (qs : List Mq) (K : List (List UInt8)) (w : World) (h : LstR w v t qs K) (hup : UpQ qs) (hm : qs.length ≤ 1000) :
    Calls Try.prog 21 #[v] w fun e w' => ∃ v' rs, e = .returned v' ∧ FreeIs (qs.map Mq.m) K (rs.map Mq.m) ∧ rs.length ≤ qs.length ∧ MsR w' v' rs ∧ Sl w' w.heap.size 8 v' rs.length (msc rs) ∧ (∀ q ∈ rs, (∀ k, q.vf.ownBlock = some k → w.heap.size ≤ k) ∧ ∀ k, q.vs.ownBlock = some k → w.heap.size ≤ k) ∧ Below w.heap.size w w' := by
  obtain ⟨ms, mp, rfl, h1, h2⟩ := h
  obtain ⟨a0, k0, rfl⟩ := rd_form h1.rd
  have LV := Lib.hid (fun W (bb : Below w.heap.size w W) => live_any (.int .i64 t) (.slice a0 qs.length k0) (.map (some mp)) qs W (h1.on bb) (by omega))
  have H2 := Lib.hid h2
  have UN := Lib.hid (fun W v1 rs (bb : Below w.heap.size w W) (hr : MsR W v1 rs) (hl : rs.length ≤ 1000000) => unm_any (.int .i64 t) (.slice a0 qs.length k0) v1 mp K rs W hr (H2.out.turn (S := fun _ => False) (Turn.of_below bb) id) hl)
  have HUP := Lib.hid hup
  clear h1 h2 hup
  have FX := Lib.hid (fun W' (bb : Below (w.alloc (.cells #[.int .i64 t, .slice a0 qs.length k0, .map (some mp)] 26)).heap.size (w.alloc (.cells #[.int .i64 t, .slice a0 qs.length k0, .map (some mp)] 26)) W') => show W'.cell? ⟨w.heap.size, 0, none⟩ = some (.int .i64 t) ∧ W'.cell? ⟨w.heap.size, 1, none⟩ = some (.slice a0 qs.length k0) ∧ W'.cell? ⟨w.heap.size, 2, none⟩ = some (.map (some mp)) from by
    have h1 := (bb.block w.heap.size (by simp)).trans (heap_alloc_new w (.cells #[.int .i64 t, .slice a0 qs.length k0, .map (some mp)] 26))
    exact ⟨Lib.cell_of_heap h1 0, Lib.cell_of_heap h1 1, Lib.cell_of_heap h1 2⟩)
  have BA := Lib.hid (show Below w.heap.size w (w.alloc (.cells #[.int .i64 t, .slice a0 qs.length k0, .map (some mp)] 26)) from (Below.refl _ _).alloc (Nat.le_refl _) _)
  have SA := Lib.hid (show (w.alloc (.cells #[.int .i64 t, .slice a0 qs.length k0, .map (some mp)] 26)).heap.size = w.heap.size + 1 by simp)
  have B0 := Below.refl (w.alloc (.cells #[.int .i64 t, .slice a0 qs.length k0, .map (some mp)] 26)).heap.size (w.alloc (.cells #[.int .i64 t, .slice a0 qs.length k0, .map (some mp)] 26))
  obtain ⟨f0, f1, f2⟩ := FX.out _ B0
  go_enter Try.func21, Try.ntmps21
  go_upto_region 1 with fail
  have BQ := B0.drew
  go_region_held3 (fun W' => W'.cell? ⟨w.heap.size, 0, none⟩ = some (.int .i64 t) ∧ W'.cell? ⟨w.heap.size, 1, none⟩ = some (.slice a0 qs.length k0) ∧ W'.cell? ⟨w.heap.size, 2, none⟩ = some (.map (some mp)))
    (first | assumption | (refine FX.out _ ?_; with_reducible repeat (first | exact Below.refl _ _ | assumption | apply Below.drew | apply bel_allocP)))
    (first
      | (go_at_call 39; (with_reducible refine (LV.out _ (BA.out.trans (by with_reducible exact BQ.mono (by rw [SA.out]; omega)))).mono ?_); rintro e w1 ⟨v1, rs, rfl, hr1, mn1, b1⟩; have B1 := BQ.trans (b1.mono BQ.size))
      | (go_at_call 26; (with_reducible refine (UN.out _ _ rs (BA.out.trans (B1.mono (by rw [SA.out]; omega))) mn1.read (by have h9 := live_len qs rs hr1; omega)).mono ?_); rintro e w2 ⟨v2, rfl, sl2, b2⟩; have B2 := B1.trans (b2.mono B1.size))
      | fail)
  all_goals
    obtain ⟨ds, hds⟩ := mz_of (us := unmQ K rs) (fun q hq => mn1.read.ok q ((List.mem_filter.1 hq).1))
    have hdl : (unmQ K rs).length = ds.length := by rw [← hds, List.length_map]
    have hul : (unmQ K rs).length ≤ rs.length := List.length_filter_le _ _
    have hrl := live_len qs rs hr1
    have SL2 := Lib.hid (show Sl w2 w1.heap.size 8 v2 ds.length (zcs ds) from by rw [zcs_msc, hds, ← hdl]; exact sl2)
    have ST := Lib.hid (sort_mz v2 ds w1.heap.size w2 SL2.out (by omega))
    have HDS := Lib.hid hds
    have HR1 := Lib.hid hr1
    have HLEN := Lib.hid (show ds.length ≤ qs.length from by omega)
    have MN1 := Lib.hid mn1
    have HB2 := Lib.hid B2
    have HB1 := Lib.hid B1
    have HBB := Lib.hid b2
    clear hds hdl hul hrl hr1 mn1 sl2 b2 b1 B2 B1 BQ
    go_wp2_with (first
      | (go_at_call 40; (with_reducible refine ST.out.mono ?_); rintro e w3 ⟨rfl, ds', hp, hso, sl3, t3⟩)
      | fail)
    go_ret
    have hz := SA.out
    have hz1 := HB1.out.size
    have b3 := t3.below (B := w.heap.size) (by have := HBB.out.size; omega) (fun k hk => by have := (sl3.lt k hk).1; omega)
    refine ⟨_, ds'.map Mz.q, rfl, ?_, ?_, free_fin MN1.out.read HBB.out HDS.out hp sl3 t3, by rw [List.length_map, hp.length_eq, ← zcs_msc]; exact sl3.mono (by omega), fun q hq => ?_, (BA.out.trans (HB2.out.mono (by omega))).trans b3⟩
    · have := free_is qs rs (unmQ K rs) K ds ds' HUP.out HR1.out rfl (by rw [← HDS.out, List.map_map]; rfl) hp hso
      rw [List.map_map]
      exact this
    · rw [List.length_map, hp.length_eq]; exact HLEN.out
    · have hq2 : q ∈ rs := by
        have h9 := ((hp.map Mz.q).mem_iff (a := q)).1 hq
        rw [HDS.out] at h9
        exact (List.mem_filter.1 h9).1
      have h8 := MN1.out.lo q hq2
      exact ⟨fun k hk => by have := h8.1 k hk; simp at this; omega, fun k hk => by have := h8.2 k hk; simp at this; omega⟩
end Go.Proofs.Ytkialkjhjenkhaa

/- Layer 20: namesOf; of blocks those that aren't deleted. -/
import Derived.Test.YtkialkjhjenkhaaMPLH
import Derived.Lib.SliceRun
namespace Go.Proofs.Ytkialkjhjenkhaa
open Go.RowKit Go.Lib
set_option linter.unusedVariables false

def ids (qs : List Mq) : List (List UInt8) := qs.map fun q => q.m.id
structure NoL (w wr : World) (v2 : Value) (n : Nat) (ns : List (List UInt8)) : Prop where
  sl : Sl wr w.heap.size 1 v2 n (sc ns)
  below : Below w.heap.size w wr
theorem NoL.alloc {w wr : World} {v2 : Value} {n : Nat} {ns : List (List UInt8)} (h : NoL w wr v2 n ns) (o : Obj) : NoL w (wr.alloc o) v2 n ns := ⟨h.sl.alloc o, h.below.alloc h.below.size o⟩
set_option maxHeartbeats 2000000 in
set_option maxRecDepth 100000 in
theorem names_any (v : Value) (qs : List Mq) (w : World) (h : MsR w v qs) (hm : qs.length ≤ 1000) :
    Calls Try.prog 27 #[v] w fun e w' => ∃ v', e = .returned v' ∧ Sl w' w.heap.size 1 v' qs.length (sc (ids qs)) ∧ Below w.heap.size w w' := by
  obtain ⟨i0, hi, hz0, hz1, hz2⟩ := info_parts zc_strq
  have Hz := Lib.hid hz0; have Hs := Lib.hid hz1; have Hb := Lib.hid hz2; have Hi := Lib.hid hi
  clear hz0 hz1 hz2 hi
  have HH := Lib.hid h
  obtain ⟨_, ad, cap, g, off, rfl, hg, hc⟩ := h.rd
  have HQ := Lib.hid (fun W (bb : Below w.heap.size w W) i q (hq : qs[i]? = some q) (h0 : 0 < qs.length) => mq_at hc bb (hg h0).2 i q hq)
  have HG := Lib.hid hg
  clear h hg hc
  obtain ⟨N, hN⟩ : ∃ N, N = qs.length := ⟨_, rfl⟩
  have HN := Lib.hid hN
  rw [← hN] at hm HG ⊢
  clear hN
  go_enter Try.func27, Try.ntmps27
  go_wp2_with fail
  go_loopw [3, 8] (fun v2 i' wr => ∃ i : Nat, i' = .int .i64 i ∧ i ≤ N ∧ NoL w wr v2 i (ids (qs.take i))) (fun _ i' _ => N - (RowKit.intOf i').toNat)
  case atStart => exact ⟨0, rfl, Nat.zero_le _, Sl.nil _ _ _, Below.refl _ _⟩
  case round =>
    obtain ⟨W0, rfl⟩ : ∃ W0, W0 = wr := ⟨_, rfl⟩
    obtain ⟨i, rfl, hi, td⟩ := hrel
    by_cases hlt : i < N
    · obtain ⟨rfl, hgl⟩ := HG.out (by omega)
      have hil : (i : Int) < N := by omega
      have hiw : IntKind.i64.wrap ((i : Int) + 1) = (i : Int) + 1 := IntWalk.i64_in _ (by omega)
      obtain ⟨q, hq⟩ : ∃ q, qs[i]? = some q := ⟨_, List.getElem?_eq_getElem (by have := HN.out; omega)⟩
      have mq := (HH.out.ok q (List.mem_of_getElem? hq)).on td.below
      have hqq := HQ.out W0 td.below i q hq (by have := HN.out; omega)
      have HTK := Lib.hid (show ids (qs.take (i + 1)) = ids (qs.take i) ++ [q.m.id] by rw [List.take_add_one, hq]; simp [ids])
      obtain ⟨m, vf, vs⟩ := q
      replace mq : MeR W0 m vf vs := mq
      obtain ⟨af, kf, rfl⟩ := rd_form mq.1
      obtain ⟨a3, ks, rfl⟩ := rd_form mq.2.1
      obtain ⟨nf, hnf⟩ : ∃ nf, nf = m.files.length := ⟨_, rfl⟩
      obtain ⟨ns, hns⟩ : ∃ ns, ns = m.src.length := ⟨_, rfl⟩
      rw [← hnf, ← hns] at hqq
      obtain ⟨q0, q1, q2, q3, q4, q5, q6, q7⟩ := hqq
      simp only at q0 q1 q2 q3 q4 q5 q6 q7 HTK
      have TD1 := Lib.hid (td.alloc (.cells #[.string (bs m.id), .int .i64 m.mn, .int .i64 m.mx, .int .i64 m.lv, .int .i64 m.se, .int .i64 m.sa, .slice af nf kf, .slice a3 ns ks] 53))
      have e0 := Lib.cell_of_heap (heap_alloc_new W0 (.cells #[.string (bs m.id), .int .i64 m.mn, .int .i64 m.mx, .int .i64 m.lv, .int .i64 m.se, .int .i64 m.sa, .slice af nf kf, .slice a3 ns ks] 53)) 0
      obtain ⟨a2, k2, rfl⟩ := td.sl.slice
      have ZV := Lib.hid td.below.size
      have SL1 := Lib.hid TD1.out.sl
      have LIT := Lib.hid (show Sl ((W0.alloc (.cells #[.string (bs m.id), .int .i64 m.mn, .int .i64 m.mx, .int .i64 m.lv, .int .i64 m.se, .int .i64 m.sa, .slice af nf kf, .slice a3 ns ks] 53)).alloc (.cells #[.string (bs m.id)] 9)) w.heap.size 1 (.slice (some ⟨W0.heap.size + 1, 0, none⟩) 1 1) 1 [.string (bs m.id)] from by
        have h9 := Sl.lit (W0.alloc (.cells #[.string (bs m.id), .int .i64 m.mn, .int .i64 m.mx, .int .i64 m.lv, .int .i64 m.se, .int .i64 m.sa, .slice af nf kf, .slice a3 ns ks] 53)) w.heap.size 1 1 #[.string (bs m.id)] 9 (by have := ZV.out; simp; omega) (by decide) rfl
        rw [show (W0.alloc (.cells #[.string (bs m.id), .int .i64 m.mn, .int .i64 m.mx, .int .i64 m.lv, .int .i64 m.se, .int .i64 m.sa, .slice af nf kf, .slice a3 ns ks] 53)).heap.size = W0.heap.size + 1 by simp] at h9
        exact h9)
      have hn4 : i + 1 ≤ maxLen := by unfold maxLen; omega
      have hn5 : (i + 1) * 16 ≤ 140737488355328 := by omega
      clear td hq mq hnf hns
      go_wp2_with (first
        | (at_builtin; go_loud (refine wpList_append_sl2 _ rfl _ _ 43 rfl w.heap.size 9 i0 (.string ⟨#[]⟩) 1 16 Try.underlying43 Hi.out Hz.out Hs.out Hb.out rfl (by decide) _ i _ rfl (SL1.out.alloc _) _ _ 1 _ rfl LIT.out (by simp [Value.oneCell']) hn4 hn5 (by have := ZV.out; simp; omega) ?_; intro v5 w5 x5; obtain ⟨a6, k6, rfl⟩ := x5.now.slice))
        | fail)
      have DONE := Lib.hid (show NoL w w5 (.slice a6 (i + 1) k6) (i + 1) (ids (qs.take (i + 1))) from by
        have hz := ZV.out
        have bb := x5.below (B := w.heap.size) (Nat.le_refl _) (by simp; omega)
        have TD2 := TD1.out.alloc (.cells #[.string (bs m.id)] 9)
        refine ⟨?_, TD2.below.trans bb⟩
        rw [HTK.out, sc_append]
        exact x5.now)
      clear x5
      go_wp2_with fail
      exact ⟨⟨i + 1, by simp, by omega, DONE.out⟩, by simp [RowKit.intOf]; omega⟩
    · have hil : ¬ (i : Int) < N := by omega
      have hiN : i = N := by omega
      have htk : ids (qs.take i) = ids qs := by rw [hiN, HN.out, List.take_length]
      rw [htk, hiN] at td
      have TD := Lib.hid td
      clear td htk
      go_wp2_with fail
      go_ret
      exact ⟨_, rfl, TD.out.sl, TD.out.below⟩
/-- Is a block no block's source? (The closure that says what goes.) -/
theorem gone_any (q : Mq) (cb mp : Nat) (qs : List Mq) (W : World) (hc : W.cell? ⟨cb, 0, none⟩ = some (.map (some mp))) (hcb : cb < W.heap.size) (hs : ShadM mp qs W) :
    Calls Try.prog 29 #[.agg #[.string (bs q.m.id), .int .i64 q.m.mn, .int .i64 q.m.mx, .int .i64 q.m.lv, .int .i64 q.m.se, .int .i64 q.m.sa, q.vf, q.vs], .pointer (some ⟨cb, 0, none⟩)] W fun e w' => e = .returned (.bool (!srcs qs q.m.id)) ∧ Below W.heap.size W w' := by
  obtain ⟨m, vf, vs⟩ := q
  simp only
  have hs1 := hs.turn ((Turn.refl (fun _ => False) W).alloc (.cells #[.string (bs m.id), .int .i64 m.mn, .int .i64 m.mx, .int .i64 m.lv, .int .i64 m.se, .int .i64 m.sa, vf, vs] 53)) id
  obtain ⟨c, h0, hlk⟩ := hs1.look m.id
  have hcc := ((Below.refl W.heap.size W).alloc (Nat.le_refl _) (.cells #[.string (bs m.id), .int .i64 m.mn, .int .i64 m.mx, .int .i64 m.lv, .int .i64 m.se, .int .i64 m.sa, vf, vs] 53)).cell (p := ⟨cb, 0, none⟩) hcb
  rw [hc] at hcc
  have HR := Lib.hid (show ((c : Int) == 0) = !srcs qs m.id from by
    cases hsr : srcs qs m.id
    · have := h0.2 hsr; subst this; rfl
    · have hne : c ≠ 0 := fun e => by rw [h0.1 e] at hsr; cases hsr
      have : ¬ ((c : Int) = 0) := by omega
      simpa using this)
  clear h0 hs hs1
  go_enter Try.func29, Try.ntmps29
  go_wp2_with fail
  go_ret
  exact ⟨by rw [HR.out]; rfl, (Below.refl _ _).alloc (Nat.le_refl _) _⟩

/-- The closure as the library sees it: whatever world, as long as what it reads stands. -/
def Del (fv : Value) (d : Mt.Me → Bool) (P : World → Prop) : Prop := ∃ cb, fv = .func (.func 29) #[] #[.pointer (some ⟨cb, 0, none⟩)] ∧ ∀ (q : Mq) (W : World), P W →
    Calls Try.prog 29 #[.agg #[.string (bs q.m.id), .int .i64 q.m.mn, .int .i64 q.m.mx, .int .i64 q.m.lv, .int .i64 q.m.se, .int .i64 q.m.sa, q.vf, q.vs], .pointer (some ⟨cb, 0, none⟩)] W fun e w' => e = .returned (.bool (d q.m)) ∧ Below W.heap.size W w'
set_option maxHeartbeats 2000000 in
set_option maxRecDepth 100000 in
theorem indexd_any (v fv : Value) (d : Mt.Me → Bool) (qs : List Mq) (w : World) (P : World → Prop) (h : Rd w 8 v qs.length (msc qs)) (hm : qs.length ≤ 1000) (hd : Del fv d P) (hP : ∀ W, Below w.heap.size w W → P W) :
    Calls Try.prog 46 #[v, fv] w fun e w' => ((∃ (I : Int) (i : Nat), e = .returned (.int .i64 I) ∧ Hid (I = i) ∧ ¬ (I = -1) ∧ IntKind.i64.wrap (I + 1) = I + 1 ∧ i < qs.length ∧ (∀ q ∈ qs.take i, d q.m = false) ∧ ∃ q, qs[i]? = some q ∧ d q.m = true) ∨ (e = .returned (.int .i64 (-1)) ∧ ∀ q ∈ qs, d q.m = false)) ∧ Below w.heap.size w w' := by
  obtain ⟨_, ad, cap, g, off, rfl, hg, hc⟩ := h
  obtain ⟨cb, rfl, hdc⟩ := hd
  have HQ := Lib.hid (fun W (bb : Below w.heap.size w W) i q (hq : qs[i]? = some q) (h0 : 0 < qs.length) => mq_at hc bb (hg h0).2 i q hq)
  have HG := Lib.hid hg
  have HP := Lib.hid hP
  have HD := Lib.hid hdc
  clear hg hc hP hdc
  obtain ⟨N, hN⟩ : ∃ N, N = qs.length := ⟨_, rfl⟩
  have HN := Lib.hid hN
  rw [← hN] at hm HG ⊢
  clear hN
  go_enter Try.func46, Try.ntmps46
  go_wp2_with fail
  go_loopw [8] (fun i' wr => ∃ i : Nat, i' = .int .i64 i ∧ i ≤ N ∧ Hid (∀ q ∈ qs.take i, d q.m = false) ∧ Below w.heap.size w wr) (fun i' _ => N - (RowKit.intOf i').toNat)
  case atStart => exact ⟨0, rfl, Nat.zero_le _, Lib.hid (by simp), Below.refl _ _⟩
  case round =>
    obtain ⟨W0, rfl⟩ : ∃ W0, W0 = wr := ⟨_, rfl⟩
    obtain ⟨i, rfl, hi, hno, hb⟩ := hrel
    have HB := Lib.hid hb
    by_cases hlt : i < N
    · obtain ⟨rfl, hgl⟩ := HG.out (by omega)
      have hil : (i : Int) < N := by omega
      have hil0 : (0 : Int) ≤ i := by omega
      have hiw : IntKind.i64.wrap ((i : Int) + 1) = (i : Int) + 1 := IntWalk.i64_in _ (by omega)
      obtain ⟨q, hq⟩ : ∃ q, qs[i]? = some q := ⟨_, List.getElem?_eq_getElem (by have := HN.out; omega)⟩
      have hqq := HQ.out W0 hb i q hq (by have := HN.out; omega)
      have CB := Lib.hid (HD.out q W0 (HP.out _ hb))
      obtain ⟨q0, q1, q2, q3, q4, q5, q6, q7⟩ := hqq
      have hsnoc : qs.take (i + 1) = qs.take i ++ [q] := by rw [List.take_add_one, hq]; rfl
      have HSN := Lib.hid hsnoc
      have HQ1 := Lib.hid hq
      obtain ⟨b, hbd⟩ : ∃ b, b = d q.m := ⟨_, rfl⟩
      have HBD := Lib.hid hbd
      rw [← hbd] at CB
      clear hb hq hsnoc hbd
      cases b
      · go_wp2_with (first
          | (go_at_call 29; (with_reducible refine CB.out.mono ?_); rintro e w2 ⟨rfl, b2⟩; have B2 := Lib.hid (HB.out.trans (b2.mono HB.out.size)); clear b2)
          | fail)
        exact ⟨⟨i + 1, by simp, by omega, Lib.hid (by
          rw [HSN.out]
          intro p hp
          rcases List.mem_append.1 hp with hp | hp
          · exact hno.out p hp
          · rw [List.mem_singleton] at hp; rw [hp]; exact HBD.out.symm), B2.out⟩, by simp [RowKit.intOf]; omega⟩
      · go_wp2_with (first
          | (go_at_call 29; (with_reducible refine CB.out.mono ?_); rintro e w2 ⟨rfl, b2⟩; have B2 := Lib.hid (HB.out.trans (b2.mono HB.out.size)); clear b2)
          | fail)
        go_ret
        exact ⟨.inl ⟨i, i, rfl, rfl, by omega, hiw, hlt, hno.out, q, HQ1.out, HBD.out.symm⟩, B2.out⟩
    · have hil : ¬ (i : Int) < N := by omega
      have hiN : i = N := by omega
      have ALL := Lib.hid (show ∀ q ∈ qs, d q.m = false from by have h9 := hno.out; rw [hiN, HN.out, List.take_length] at h9; exact h9)
      clear hb hiN
      go_wp2_with fail
      go_ret
      exact ⟨.inr ⟨rfl, ALL.out⟩, HB.out⟩
end Go.Proofs.Ytkialkjhjenkhaa

/- Layer 15: one point, and two, checked. Layer 15: two points of one new series added. -/
import Derived.Test.YthgpnjkabpfccaaDoorMHI
namespace Go.Proofs.YthgpnjkabpfccaaDoor
open Go.RowKit Go.Lib

theorem PtK.on {lv : Value} {K : ByteArray} {w W : World} (h : PtK lv K w) (b : Below w.heap.size w W) : PtK lv K W :=
  ⟨fun X bx => h.ck X (b.trans (bx.mono b.size)), fun X bx => h.ky X (b.trans (bx.mono b.size))⟩

theorem lo_head (b ms mi mp cs : Nat) (ss : List En) (se sa wd fl tp sm nu pl L : Int) (K : ByteArray) (pv : Value) (w : World) (hh : HdB b ms mi mp se sa wd fl tp sm nu pl w) (hms : MapIs ms ss cs w) (hp : ((lookE K ss).map (·.val)).getD (.pointer none) = pv)
    (hL : ∀ W, Below w.heap.size w W → Calls Tryd.prog 41 #[pv] W fun e w' => e = .returned (.int .i64 L) ∧ ∃ q, w' = W.drewN q) (t lm c : Nat) (ns nsm : Int) (es : List En) (W : World) (bW : Below w.heap.size w W) (tb : TrB t b lm ns nsm W) (mb : MapIs lm es c W) (hn : lookE K es = none) :
    ∀ W', Below W.heap.size W W' → Calls Tryd.prog 27 #[.pointer (some ⟨t, 0, none⟩), .string K] W' fun e w' => e = .returned (.int .i64 L) ∧ Below W'.heap.size W' w' := by
  intro W' b'
  have b2 := bW.trans (b'.mono bW.size)
  refine (lastOf_head t b lm c ms mi mp cs es ss ns nsm L se sa wd fl tp sm nu pl K pv W' ((b'.block t (trB_lt tb)).trans tb) ((b2.block b (hdB_lt hh)).trans hh) (Below.mapIs b' mb) (Below.mapIs b2 hms) hn hp (hL W' b2)).mono ?_
  rintro e w' ⟨rfl, q, rfl⟩
  exact ⟨rfl, below_draw (Below.refl _ _) q⟩
theorem lo_taken (t b lm c : Nat) (ns nsm L : Int) (es : List En) (K : ByteArray) (W : World) (tb : TrB t b lm ns nsm W) (mb : MapIs lm es c W) (hk : (lookE K es).map (·.val) = some (.int .i64 L)) :
    ∀ W', Below W.heap.size W W' → Calls Tryd.prog 27 #[.pointer (some ⟨t, 0, none⟩), .string K] W' fun e w' => e = .returned (.int .i64 L) ∧ Below W'.heap.size W' w' := by
  intro W' b'
  refine (lastOf_taken t b lm c es ns nsm L K W' ((b'.block t (trB_lt tb)).trans tb) (Below.mapIs b' mb) hk).mono ?_
  rintro e w' ⟨rfl, rfl⟩
  exact ⟨rfl, Below.refl _ _⟩
theorem last_empty (w W : World) (_b : Below w.heap.size w W) : Calls Tryd.prog 41 #[.pointer none] W fun e w' => e = .returned (.int .i64 (-1)) ∧ ∃ q, w' = W.drewN q :=
  (last_nil W).mono fun _ _ h => ⟨h.1, 0, by rw [← h.2]; rfl⟩
theorem last_there (p : Nat) (lv : Value) (K : ByteArray) (nu pl : Int) (base n : Nat) (xs : List Value) (sv : Value) (T : Int) (w : World) (h : SrB p lv K nu pl sv w) (sl : Sl w base 2 sv (n + 1) xs) (hn : n ≤ 1000000) (hT : xs[n * 2]? = some (.int .i64 T)) (W : World) (b : Below w.heap.size w W) :
    Calls Tryd.prog 41 #[.pointer (some ⟨p, 0, none⟩)] W fun e w' => e = .returned (.int .i64 T) ∧ ∃ q, w' = W.drewN q := by
  rcases (sl.on b).2 with ⟨_, h0⟩ | ⟨g, off, cap, he, _⟩
  · omega
  · subst he
    have hc := (sl.on b).cells _ _ hT
    rw [Addr.add_lit] at hc
    exact last_some p lv K nu pl g off n cap T W hn ((b.block p (srB_lt h)).trans h) hc
theorem setE_nil (K : ByteArray) (v : Value) (c : Nat) : (lookE K (setE K v c [])).map (·.val) = some v := by simp [setE, lookE]

theorem check_one (b ms mi mp cs G : Nat) (ss : List En) (se sa wd fl tp sm nu pl L T V : Int) (lv pv : Value) (K : ByteArray) (nw : Bool) (ns' : Int) (w : World) (hh : HdB b ms mi mp se sa wd fl tp sm nu pl w) (hms : MapIs ms ss cs w) (hpt : w.heap[G]? = some (.cells #[lv, .int .i64 T, .int .u64 V] 45)) (hk : PtK lv K w) (ho : lv.oneCell' = true) (hp : ((lookE K ss).map (·.val)).getD (.pointer none) = pv)
    (hL : ∀ W, Below w.heap.size w W → Calls Tryd.prog 41 #[pv] W fun e w' => e = .returned (.int .i64 L) ∧ ∃ q, w' = W.drewN q)
    (hnw : (L == -1) = nw) (hns : ns' = if nw then (ss.length : Int) + 1 else (ss.length : Int)) (h0 : 0 ≤ T) (h1 : T ≤ 1099511627775) (h2 : T ≠ L) (h3 : fl ≤ T) (h4 : L ≤ T) (h5 : ns' ≤ se) (h6 : sm + 1 ≤ sa) (h7 : 0 ≤ sm) (h8 : se ≤ 10000 ∧ sa ≤ 1048576) :
    Calls Tryd.prog 9 #[.pointer (some ⟨b, 0, none⟩), .slice (some ⟨G, 0, none⟩) 1 1] w fun e w' => e = .returned (.tuple #[.int .i64 (-1), .int .i64 0]) ∧ Below w.heap.size w w' := by
  refine check_all b ms mi mp cs G 0 1 1 ss se sa wd fl tp sm nu pl (fun _ => lv) (fun _ => T) (fun _ => V) (fun k e => k = 0 → e = []) (fun k => if k = 0 then (ss.length : Int) else ns') (fun k => sm + k) w hh hms (by decide) ⟨(Array.getElem?_eq_some_iff.1 hpt).1, fun k hk1 => ?_⟩ (fun _ => rfl) rfl (by simp) ?_
  · obtain rfl : k = 0 := by omega
    exact ⟨ho, Lib.cell_of_heap hpt 0, Lib.cell_of_heap hpt 1, Lib.cell_of_heap hpt 2⟩
  · intro k t lm c e W hk1 ht hlm hne tb hes mb bW
    obtain rfl : k = 0 := by omega
    obtain rfl : e = [] := hes rfl
    simp only [if_true] at tb
    have lb := hdB_lt hh
    have tb' : TrB t b lm ss.length sm W := by simpa using tb
    refine (take_ok t b lm c ms mi mp [] ss.length sm T V L se sa wd fl tp sm nu pl lv K nw ns' W tb' ((bW.block b lb).trans hh) mb (hk.on bW) (by omega) hne (by omega) (lo_head b ms mi mp cs ss se sa wd fl tp sm nu pl L K pv w hh hms hp hL t lm c _ _ [] W bW tb' mb rfl) hnw hns h0 h1 h2 h3 h4 h5 h6 ⟨by omega, h7⟩ h8).mono ?_
    rintro e w' ⟨rfl, c', t2, m2, u2⟩
    exact ⟨rfl, c', _, by simpa using t2, fun h => by omega, m2, u2⟩

theorem check_two (b ms mi mp cs g off cap : Nat) (se sa wd fl tp sm nu pl T0 V0 T1 V1 : Int) (lv : Value) (K : ByteArray) (w : World) (hh : HdB b ms mi mp se sa wd fl tp sm nu pl w) (hms : MapIs ms [] cs w) (hpt : PtAt w g off 2 (fun _ => lv) (fun k => if k = 0 then T0 else T1) (fun k => if k = 0 then V0 else V1)) (hk : PtK lv K w)
    (h0 : 0 ≤ T0) (h1 : T0 < T1) (h2 : T1 ≤ 1099511627775) (h3 : fl ≤ T0) (h5 : 1 ≤ se) (h6 : sm + 2 ≤ sa) (h7 : 0 ≤ sm) (h8 : se ≤ 10000 ∧ sa ≤ 1048576) :
    Calls Tryd.prog 9 #[.pointer (some ⟨b, 0, none⟩), .slice (some ⟨g, off, none⟩) 2 cap] w fun e w' => e = .returned (.tuple #[.int .i64 (-1), .int .i64 0]) ∧ Below w.heap.size w w' := by
  refine check_all b ms mi mp cs g off 2 cap [] se sa wd fl tp sm nu pl (fun _ => lv) (fun k => if k = 0 then T0 else T1) (fun k => if k = 0 then V0 else V1) (fun k e => (k = 0 → e = []) ∧ (k = 1 → (lookE K e).map (·.val) = some (.int .i64 T0))) (fun k => if k = 0 then 0 else 1) (fun k => sm + k) w hh hms (by decide) hpt ⟨fun _ => rfl, fun h => by omega⟩ rfl (by simp) ?_
  intro k t lm c e W hk1 ht hlm hne tb hes mb bW
  have lb := hdB_lt hh
  rcases (by omega : k = 0 ∨ k = 1) with rfl | rfl
  · obtain rfl : e = [] := hes.1 rfl
    have tb' : TrB t b lm 0 sm W := by simpa using tb
    refine (take_ok t b lm c ms mi mp [] 0 sm T0 V0 (-1) se sa wd fl tp sm nu pl lv K true 1 W tb' ((bW.block b lb).trans hh) mb (hk.on bW) (by omega) hne (by omega) (lo_head b ms mi mp cs [] se sa wd fl tp sm nu pl (-1) K (.pointer none) w hh hms rfl (last_empty w) t lm c _ _ [] W bW tb' mb rfl) rfl rfl h0 (by omega) (by omega) h3 (by omega) h5 (by omega) ⟨by omega, h7⟩ h8).mono ?_
    rintro e w' ⟨rfl, c', t2, m2, u2⟩
    exact ⟨rfl, c', _, by simpa using t2, ⟨fun h => by omega, fun _ => setE_nil K _ c⟩, m2, u2⟩
  · have tb' : TrB t b lm 1 (sm + 1) W := by simpa using tb
    refine (take_ok t b lm c ms mi mp e 1 (sm + 1) T1 V1 T0 se sa wd fl tp sm nu pl lv K false 1 W tb' ((bW.block b lb).trans hh) mb (hk.on bW) (by omega) hne (by omega) (lo_taken t b lm c _ _ T0 e K W tb' mb (hes.2 rfl)) (by simp; omega) rfl (by omega) h2 (by omega) (by omega) (by omega) h5 (by omega) ⟨by omega, by omega⟩ h8).mono ?_
    rintro e w' ⟨rfl, c', t2, m2, u2⟩
    refine ⟨rfl, c', _, ?_, ⟨fun h => by omega, fun h => by omega⟩, m2, u2⟩
    have e2 : sm + 1 + 1 = sm + ((1 + 1 : Nat) : Int) := by omega
    rw [e2] at t2
    exact t2

theorem check_twice (b ms mi mp cs G cap n : Nat) (ss : List En) (se sa wd fl tp sm nu pl T V : Int) (lv pv : Value) (K : ByteArray) (off : Nat) (w : World) (hn : 0 < n) (hh : HdB b ms mi mp se sa wd fl tp sm nu pl w) (hms : MapIs ms ss cs w) (hgl : G < w.heap.size) (v0 : w.cell? ⟨G, off, none⟩ = some lv) (v1 : w.cell? ⟨G, off + 1, none⟩ = some (.int .i64 T)) (v2 : w.cell? ⟨G, off + 2, none⟩ = some (.int .u64 V)) (hk : PtK lv K w) (ho : lv.oneCell' = true) (hp : ((lookE K ss).map (·.val)).getD (.pointer none) = pv)
    (hL : ∀ W, Below w.heap.size w W → Calls Tryd.prog 41 #[pv] W fun e w' => e = .returned (.int .i64 T) ∧ ∃ q, w' = W.drewN q) (h0 : 0 ≤ T) (h1 : T ≤ 1099511627775) :
    Calls Tryd.prog 9 #[.pointer (some ⟨b, 0, none⟩), .slice (some ⟨G, off, none⟩) n cap] w fun e w' => e = .returned (.tuple #[.int .i64 0, .int .i64 11]) ∧ Below w.heap.size w w' := by
  refine check_no b ms mi mp cs G off n cap ss se sa wd fl tp sm nu pl 11 lv T V w hh hms hn hgl ho v0 v1 v2 (by decide) ?_
  intro t lm W ht hlm hne tb mb bW
  exact take_twice T V t lv K W (hk.on bW) h0 h1 (lo_head b ms mi mp cs ss se sa wd fl tp sm nu pl T K pv w hh hms hp hL t lm 0 _ _ [] W bW tb mb rfl)
end Go.Proofs.YthgpnjkabpfccaaDoor

namespace Go.Proofs.YthgpnjkabpfccaaDoor
open Go.RowKit Go.Lib

structure Hd6 (b ms mi mp mh ml : Nat) : Prop where
  bms : b ≠ ms
  bmp : b ≠ mp
  bmi : b ≠ mi
  bmh : b ≠ mh
  bml : b ≠ ml
  smp : ms ≠ mp
  smi : ms ≠ mi
  smh : ms ≠ mh
  sml : ms ≠ ml
  pi : mp ≠ mi
  ph : mp ≠ mh
  pl : mp ≠ ml
/-- All of a head's memory lies below B. -/
def HdLt (b ms mi mp mh ml B : Nat) : Prop := b < B ∧ ms < B ∧ mi < B ∧ mp < B ∧ mh < B ∧ ml < B
theorem hdNe_of {b ms mi mp mh ml p : Nat} (h : Hd6 b ms mi mp mh ml) (l : HdLt b ms mi mp mh ml p) : HdNe b ms mi mp mh ml p := by
  obtain ⟨l1, l2, l3, l4, l5, l6⟩ := l
  exact ⟨by omega, h.bms, h.bmp, h.bmi, h.bmh, h.bml, by omega, by omega, by omega, by omega, by omega, h.smp, h.smi, h.smh, h.sml, h.pi, h.ph, h.pl⟩
def S6 (b ms mi mp mh ml : Nat) : Nat → Prop := fun k => k = b ∨ k = ms ∨ k = mp ∨ k = mi ∨ k = mh ∨ k = ml
theorem hdS_of {b ms mi mp mh ml p k : Nat} (h : HdS b ms mi mp mh ml p k) : k = p ∨ S6 b ms mi mp mh ml k := by
  rcases h with e | e | e | e | e | e | e
  · exact .inr (.inl e)
  · exact .inl e
  · exact .inr (.inr (.inl e))
  · exact .inr (.inr (.inr (.inl e)))
  · exact .inr (.inr (.inr (.inr (.inl e))))
  · exact .inr (.inr (.inr (.inr (.inr (.inl e)))))
  · exact .inr (.inr (.inr (.inr (.inr (.inr e)))))
theorem hdS_of_6 {b ms mi mp mh ml p k : Nat} (h : S6 b ms mi mp mh ml k) : HdS b ms mi mp mh ml p k := by
  rcases h with e | e | e | e | e | e
  · exact .inl e
  · exact .inr (.inr (.inl e))
  · exact .inr (.inr (.inr (.inl e)))
  · exact .inr (.inr (.inr (.inr (.inl e))))
  · exact .inr (.inr (.inr (.inr (.inr (.inl e)))))
  · exact .inr (.inr (.inr (.inr (.inr (.inr e)))))

/-- A head with one series behind n points. -/
def OneS (B b ms mi mp cs : Nat) (se sa wd top sm : Int) (K : ByteArray) (n : Nat) (xs : List Value) (W : World) : Prop :=
  ∃ p lv' sv, HdB b ms mi mp se sa wd 0 top sm 1 1 W ∧ MapIs ms [⟨K, .pointer (some ⟨p, 0, none⟩), cs⟩] (cs + 1) W ∧ SrB p lv' K 1 1 sv W ∧ Sl W B 2 sv n xs ∧ B ≤ p ∧ (∀ k, sv.ownBlock = some k → k ≠ p)
theorem OneS.on {B b ms mi mp cs n : Nat} {se sa wd top sm : Int} {K : ByteArray} {xs : List Value} {W W' : World} (h : OneS B b ms mi mp cs se sa wd top sm K n xs W) (bb : Below W.heap.size W W') : OneS B b ms mi mp cs se sa wd top sm K n xs W' := by
  obtain ⟨p, lv', sv, h1, h2, h3, h4, h5, h6⟩ := h
  exact ⟨p, lv', sv, (bb.block b (hdB_lt h1)).trans h1, Below.mapIs bb h2, (bb.block p (srB_lt h3)).trans h3, h4.on bb, h5, h6⟩

theorem pack0 (b ms mi mp mh ml cs cp ch cl q : Nat) (x y : List UInt8) (se sa wd T V : Int) (lv : Value) (K : ByteArray) (w w3 : World) (h6 : Hd6 b ms mi mp mh ml) (hlt : HdLt b ms mi mp mh ml w.heap.size) (b3 : Below w.heap.size w w3) (h : HdB b ms mi mp se sa wd 0 (-1) 0 0 0 w) (hs : MapIs ms [] cs w) (hp : MapIsJ mp [] cp w) (hx : IxB mi mh ml (.slice none 0 0) w) (hmh : MapIs mh [] ch w) (hml : MapIsJ ml [] cl w) (hr : Rd w 2 lv 1 (prc [⟨x, y⟩])) (PK : ∀ W, Rd W 2 lv 1 (prc [⟨x, y⟩]) → PtK lv K W) (hxy : x.length ≤ 100000000 ∧ y.length ≤ 100000000) (hT : -1 ≤ T)
    (hq : w3.heap[q]? = some (.cells #[lv, .int .i64 T, .int .u64 V] 45)) (hqw : w.heap.size ≤ q) :
    Calls Tryd.prog 19 #[.pointer (some ⟨b, 0, none⟩), lv] w3 fun e w4 => ∃ p, e = .returned (.pointer (some ⟨p, 0, none⟩)) ∧ (w4.cell? ⟨q, 1, none⟩ = some (.int .i64 T) ∧ w4.cell? ⟨q, 2, none⟩ = some (.int .u64 V)) ∧
      Calls Tryd.prog 18 #[.pointer (some ⟨b, 0, none⟩), .pointer (some ⟨p, 0, none⟩), .agg #[.int .i64 T, .int .u64 V]] w4 fun e w' => e = .returned (.tuple #[]) ∧ OneS w.heap.size b ms mi mp cs se sa wd T 1 K 1 [.int .i64 T, .int .u64 V] w' ∧ Turn (S6 b ms mi mp mh ml) w w' := by
  obtain ⟨l1, l2, l3, l4, l5, l6⟩ := hlt
  have z3 := b3.size
  have H3 : HdB b ms mi mp se sa wd 0 (-1) 0 0 0 w3 := (b3.block b l1).trans h
  have hr3 : Rd w3 2 lv 1 (prc [⟨x, y⟩]) := hr.on b3
  refine (numbered_new b ms mi mp cs [] se sa wd 0 (-1) 0 0 0 lv [⟨x, y⟩] K w3 H3 (Below.mapIs b3 hs) rfl (PK w3 hr3) hr3 (fun p hp => by rw [List.mem_singleton] at hp; subst hp; exact hxy) (by simp) ⟨by decide, by decide⟩).mono ?_
  rintro e w4 ⟨p, lv', rfl, hpz, H4, S4, R4, O4, t4⟩
  have hq4 : w4.heap[q]? = some (.cells #[lv, .int .i64 T, .int .u64 V] 45) := (t4.block q (Array.getElem?_eq_some_iff.1 hq).1 (by omega)).trans hq
  have t04 : Turn (fun k => k = b) w w4 := (Turn.of_below b3).trans t4
  have ne := hdNe_of (p := p) h6 ⟨by omega, by omega, by omega, by omega, by omega, by omega⟩
  refine ⟨p, rfl, ⟨Lib.cell_of_heap hq4 1, Lib.cell_of_heap hq4 2⟩, (put_first b ms mi mp mh ml p cs cp ch cl x y se sa wd 0 (-1) 0 (0 + 1) 0 (0 + 1) 0 T V lv' K w4 H4 (hs.turn t04 (fun e => h6.bms e.symm)) (hp.turn t04 (fun e => h6.bmp e.symm)) ⟨(t04.block mi l3 (fun e => h6.bmi e.symm)).trans hx.box, hx.bh, hx.bl, hx.hl⟩ (hmh.turn t04 (fun e => h6.bmh e.symm)) (hml.turn t04 (fun e => h6.bml e.symm)) S4 R4 ne (fun k hk e => by have := O4 k hk; unfold HdS at e; omega) ⟨by decide, by decide⟩ ⟨by decide, by decide⟩).mono ?_⟩
  rintro e w' ⟨rfl, v', H5, M5, S5, sl5, t5⟩
  have z4 := t4.size
  have hmax : max (-1) T = T := by omega
  rw [hmax] at H5
  refine ⟨rfl, ⟨p, lv', v', H5, M5, S5, sl5.mono (by omega), by omega, fun k hk => ?_⟩, turn_then (t04.mono (fun k hk => .inl hk)) t5 (fun i hi e => ?_)⟩
  · have := (sl5.lt k hk).1
    have := srB_lt S4
    omega
  · rcases hdS_of e with e | e
    · omega
    · exact e

theorem pack1 (b ms mi mp mh ml cs q : Nat) (x y : List UInt8) (se sa wd T0 V0 T V : Int) (lv : Value) (K : ByteArray) (w w1 w3 : World) (h6 : Hd6 b ms mi mp mh ml) (hlt : HdLt b ms mi mp mh ml w.heap.size) (h1 : OneS w.heap.size b ms mi mp cs se sa wd T0 1 K 1 [.int .i64 T0, .int .u64 V0] w1) (t1 : Turn (S6 b ms mi mp mh ml) w w1) (b3 : Below w1.heap.size w1 w3) (hr : Rd w3 2 lv 1 (prc [⟨x, y⟩])) (PK : ∀ W, Rd W 2 lv 1 (prc [⟨x, y⟩]) → PtK lv K W) (hT : T0 ≤ T)
    (hq : w3.heap[q]? = some (.cells #[lv, .int .i64 T, .int .u64 V] 45)) :
    Calls Tryd.prog 19 #[.pointer (some ⟨b, 0, none⟩), lv] w3 fun e w4 => ∃ p, e = .returned (.pointer (some ⟨p, 0, none⟩)) ∧ (w4.cell? ⟨q, 1, none⟩ = some (.int .i64 T) ∧ w4.cell? ⟨q, 2, none⟩ = some (.int .u64 V)) ∧
      Calls Tryd.prog 18 #[.pointer (some ⟨b, 0, none⟩), .pointer (some ⟨p, 0, none⟩), .agg #[.int .i64 T, .int .u64 V]] w4 fun e w' => e = .returned (.tuple #[]) ∧ OneS w.heap.size b ms mi mp cs se sa wd T 2 K 2 [.int .i64 T0, .int .u64 V0, .int .i64 T, .int .u64 V] w' ∧ Turn (S6 b ms mi mp mh ml) w w' := by
  obtain ⟨l1, l2, l3, l4, l5, l6⟩ := hlt
  obtain ⟨p, lv', sv, H, M, S, sl, hp, hsv⟩ := h1.on b3
  have z1 := t1.size
  have z3 := b3.size
  refine (numbered_old b ms mi mp (cs + 1) p [⟨K, .pointer (some ⟨p, 0, none⟩), cs⟩] se sa wd 0 T0 1 1 1 1 1 lv lv' sv K w3 H M (.inr (by simp [lookE])) S (PK w3 hr) (by decide)).mono ?_
  rintro e w4 ⟨rfl, b4⟩
  have hq4 : w4.heap[q]? = some (.cells #[lv, .int .i64 T, .int .u64 V] 45) := kept_below b4 hq
  have hownb : ∀ k, sv.ownBlock = some k → k ≠ b ∧ k ≠ p := fun k hk => ⟨by have := (sl.lt k hk).1; omega, hsv k hk⟩
  refine ⟨p, rfl, ⟨Lib.cell_of_heap hq4 1, Lib.cell_of_heap hq4 2⟩, (put_more w.heap.size b ms mi mp p 1 [.int .i64 T0, .int .u64 V0] se sa wd 0 T0 1 1 1 1 1 T V lv' sv K w4 ((b4.block b (hdB_lt H)).trans H) ((b4.block p (srB_lt S)).trans S) (sl.on b4) (by decide) (by decide) (by have := b4.size; omega) (by omega) hownb ⟨by decide, by decide⟩).mono ?_⟩
  rintro e w' ⟨rfl, v', H5, S5, sl5, hv5, t5⟩
  have hmax : max T0 T = T := by omega
  rw [hmax] at H5
  have z4 := b4.size
  have M4 := Below.mapIs b4 M
  refine ⟨rfl, ⟨p, lv', v', H5, (t5.block ms (mapIs_lt M4) (fun e => ?_)).trans M4, S5, sl5, hp, fun k hk => ?_⟩, turn_then (t1.trans ((Turn.of_below b3).trans (Turn.of_below b4))) t5 (fun i hi e => ?_)⟩
  · rcases e with e | e | e
    · exact h6.bms e.symm
    · omega
    · have := (sl.lt ms e).1; omega
  · rcases hv5 k hk with e | e
    · exact hsv k e
    · have := srB_lt S; omega
  · rcases e with e | e | e
    · exact .inl e
    · omega
    · have := (sl.lt i e).1; omega
end Go.Proofs.YthgpnjkabpfccaaDoor

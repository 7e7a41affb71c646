/- Layer 10: New. -/
import Derived.Test.YtkialkjhjenkhaaMPL3
import Derived.Test.YtkialkjhjenkhaaMPL4
import Derived.Test.YtkialkjhjenkhaaMMB
import Derived.Test.YtkialkjhjenkhaaMM9
import Derived.Deep.RegionHeldLaw
namespace Go.Proofs.Ytkialkjhjenkhaa
open Go.RowKit Go.Lib
set_option linter.unusedVariables false

/-- Not in v's own memory. -/
def Off (x : Value) (n : Nat) (v : Value) : Prop := 0 < n → ∀ k, x.ownBlock = some k → v.ownBlock ≠ some k
theorem Rd.own {w : World} {size n : Nat} {v : Value} {xs : List Value} (h : Rd w size v n xs) (hn : 0 < n) : ∃ g, v.ownBlock = some g ∧ g < w.heap.size := by
  obtain ⟨_, a, cap, g, off, rfl, hg, _⟩ := h
  obtain ⟨rfl, hlt⟩ := hg hn
  exact ⟨g, rfl, hlt⟩
/-- Slices only read, behind an append to another one. -/
theorem Rd.grown {w w' : World} {row : Option Nat} {size n : Nat} {v : Value} {xs : List Value} (h : Rd w size v n xs) (hg : w.grownBy w' row) (hne : 0 < n → v.ownBlock ≠ row) : Rd w' size v n xs := by
  obtain ⟨hl, a, cap, g, off, rfl, h1, h2⟩ := h
  refine ⟨hl, a, cap, g, off, rfl, fun hn => ⟨(h1 hn).1, Nat.lt_of_lt_of_le (h1 hn).2 hg.size⟩, fun j hj => ?_⟩
  by_cases hn : 0 < n
  · obtain ⟨rfl, hlt⟩ := h1 hn
    rw [← h2 j hj]
    exact World.cell?_of_block (w := w) (w' := w') (hg.block g hlt (hne hn))
  · have : n = 0 := by omega
    subst this
    rw [Nat.zero_mul] at hj
    exact absurd hj (Nat.not_lt_zero _)

theorem Ext.off {base size size' n0 n m : Nat} {w w' : World} {v0 v x : Value} {xs0 xs ys : List Value} (h : Ext base size w v0 n0 xs0 w' v n xs) (hr : Rd w size' x m ys) (ho : Off x m v0) : Off x m v := by
  intro hm k hk
  obtain ⟨g, hg, hlt⟩ := hr.own hm
  have hkg : k = g := Option.some.inj (hk.symm.trans hg)
  rcases h.alias with ⟨a, cap, e0, e1, _⟩ | hnew
  · have := ho hm k hk
    rw [e0] at this
    rw [e1, ownBlock_slice a n n0 cap cap]
    exact this
  · intro e
    have := hnew k e
    omega
/-- Metas in a slice that is being made. -/
structure MsN (w : World) (base : Nat) (v : Value) (qs : List Mq) : Prop where
  sl : Sl w base 8 v qs.length (msc qs)
  ok : ∀ q ∈ qs, MeR w q.m q.vf q.vs ∧ Off q.vf q.m.files.length v ∧ Off q.vs q.m.src.length v
  lo : ∀ q ∈ qs, (∀ k, q.vf.ownBlock = some k → base ≤ k) ∧ ∀ k, q.vs.ownBlock = some k → base ≤ k
theorem MsN.on {w w' : World} {base : Nat} {v : Value} {qs : List Mq} (h : MsN w base v qs) (b : Below w.heap.size w w') : MsN w' base v qs :=
  ⟨h.sl.on b, fun q hq => ⟨(h.ok q hq).1.on b, (h.ok q hq).2⟩, h.lo⟩
theorem MsN.read {w : World} {base : Nat} {v : Value} {qs : List Mq} (h : MsN w base v qs) : MsR w v qs := ⟨Rd.of_sl h.sl, fun q hq => (h.ok q hq).1⟩
theorem MsN.nil (w : World) (base : Nat) : MsN w base (.slice none 0 0) [] := ⟨Sl.nil _ _ _, by simp, by simp⟩
theorem MsN.push {w w' : World} {base n : Nat} {v v' : Value} {qs : List Mq} {q : Mq} (h : MsN w base v qs) (hn : qs.length = n) (hx : Ext base 8 w v n (msc qs) w' v' (n + 1) (msc qs ++ mqc q)) (hq : MeR w q.m q.vf q.vs) (ha : Off q.vf q.m.files.length v) (hb : Off q.vs q.m.src.length v) (hlo : (∀ k, q.vf.ownBlock = some k → base ≤ k) ∧ ∀ k, q.vs.ownBlock = some k → base ≤ k) : MsN w' base v' (qs ++ [q]) := by
  subst hn
  refine ⟨?_, fun p hp => ?_, fun p hp => by
    rcases List.mem_append.1 hp with hp | hp
    · exact h.lo p hp
    · rw [List.mem_singleton] at hp; subst hp; exact hlo⟩
  · rw [List.length_append, msc_append, show msc [q] = mqc q by simp [msc]]
    exact hx.now
  · have key : MeR w p.m p.vf p.vs ∧ Off p.vf p.m.files.length v ∧ Off p.vs p.m.src.length v := by
      rcases List.mem_append.1 hp with hp | hp
      · exact h.ok p hp
      · rw [List.mem_singleton] at hp
        subst hp
        exact ⟨hq, ha, hb⟩
    obtain ⟨k1, k2, k3⟩ := key
    refine ⟨⟨k1.1.grown hx.grown (fun hn e => ?_), k1.2.1.grown hx.grown (fun hn e => ?_), k1.2.2⟩, hx.off k1.1 k2, hx.off k1.2.1 k3⟩
    · obtain ⟨g, hg, _⟩ := k1.1.own hn
      exact k2 hn g hg (e.symm.trans hg)
    · obtain ⟨g, hg, _⟩ := k1.2.1.own hn
      exact k3 hn g hg (e.symm.trans hg)
theorem Rd.setOff {w : World} {size n : Nat} {v : Value} {xs : List Value} (h : Rd w size v n xs) (g o : Nat) (u : Value) (ho : 0 < n → v.ownBlock ≠ some g) : Rd (w.setCell ⟨g, o, none⟩ u) size v n xs := by
  obtain ⟨h0, a, cap, g', off, hv, h1, h2⟩ := h
  refine ⟨h0, a, cap, g', off, hv, fun hn => ⟨(h1 hn).1, by simpa [World.setCell] using (h1 hn).2⟩, fun j hj => ?_⟩
  have hn : 0 < n := by
    rcases Nat.eq_zero_or_pos n with h | h
    · subst h; rw [Nat.zero_mul] at hj; exact absurd hj (Nat.not_lt_zero _)
    · exact h
  have hne : g' ≠ g := fun e => ho hn (by rw [hv, (h1 hn).1, e]; rfl)
  rw [cell_setCell_other _ _ _ _ _ (.inl hne)]
  exact h2 j hj
theorem MsN.else {w : World} {base : Nat} {v : Value} {qs : List Mq} (h : MsN w base v qs) (b o : Nat) (u : Value) (hb : b < base) : MsN (w.setCell ⟨b, o, none⟩ u) base v qs :=
  ⟨sl_else h.sl ⟨b, o, none⟩ u hb, fun q hq => ⟨⟨(h.ok q hq).1.1.setOff b o u (fun _ e => by have := (h.lo q hq).1 b e; omega), (h.ok q hq).1.2.1.setOff b o u (fun _ e => by have := (h.lo q hq).2 b e; omega), (h.ok q hq).1.2.2⟩, (h.ok q hq).2⟩, h.lo⟩
theorem Rd.turnT {S : Nat → Prop} {w w' : World} {size n : Nat} {v : Value} {xs : List Value} (h : Rd w size v n xs) (t : Turn S w w') (hv : ∀ k, v.ownBlock = some k → ¬ S k) : Rd w' size v n xs := by
  obtain ⟨h0, a, cap, g, off, rfl, h1, h2⟩ := h
  refine ⟨h0, a, cap, g, off, rfl, fun hn => ⟨(h1 hn).1, Nat.lt_of_lt_of_le (h1 hn).2 t.size⟩, fun j hj => ?_⟩
  have hn : 0 < n := by
    rcases Nat.eq_zero_or_pos n with e | e
    · subst e; omega
    · exact e
  obtain ⟨rfl, hg⟩ := h1 hn
  exact (t.cell (p := ⟨g, off + j, none⟩) hg (hv g rfl)).trans (h2 j hj)
theorem MsN.turn {S : Nat → Prop} {w w' : World} {base : Nat} {v : Value} {qs : List Mq} (h : MsN w base v qs) (t : Turn S w w') (hS : ∀ k, base ≤ k → ¬ S k) : MsN w' base v qs :=
  ⟨h.sl.turn t (fun k hk => hS k (h.sl.lt k hk).1), fun q hq => ⟨⟨(h.ok q hq).1.1.turnT t (fun k hk => hS k ((h.lo q hq).1 k hk)), (h.ok q hq).1.2.1.turnT t (fun k hk => hS k ((h.lo q hq).2 k hk)), (h.ok q hq).1.2.2⟩, (h.ok q hq).2⟩, h.lo⟩
theorem UpQ.of {qs rs : List Mq} (h : UpQ qs) (e : rs.map Mq.m = qs.map Mq.m) : UpQ rs := by
  intro i x y hx hy
  have hx2 : (qs.map Mq.m)[i]? = some x.m := by rw [← e, List.getElem?_map, hx]; rfl
  have hy2 : (qs.map Mq.m)[i + 1]? = some y.m := by rw [← e, List.getElem?_map, hy]; rfl
  rw [List.getElem?_map] at hx2 hy2
  obtain ⟨a, ha, e1⟩ := Option.map_eq_some_iff.1 hx2
  obtain ⟨b, hb, e2⟩ := Option.map_eq_some_iff.1 hy2
  rw [← e1, ← e2]
  exact h i a b ha hb
/-- A listing: its metas' slice, its marks' map. -/
def LstR (w : World) (v : Value) (t : Int) (qs : List Mq) (K : List (List UInt8)) : Prop := ∃ ms mp, v = .agg #[.int .i64 t, ms, .map (some mp)] ∧ MsR w ms qs ∧ MarkM mp K w
/-- The marks handed to New. -/
def MkV (w : World) (mk : Value) (K : List (List UInt8)) : Prop := (mk = .map none ∧ K = []) ∨ ∃ m, mk = .map (some m) ∧ MarkM m K w
theorem MkV.copy {w W : World} {mk : Value} {K : List (List UInt8)} {d : Nat} (h : MkV w mk K) (b : Below w.heap.size w W) (hd : MarkM d [] W) (hdw : w.heap.size ≤ d) :
    Calls Try.prog 38 #[.map (some d), mk] W fun e w' => e = .returned (.tuple #[]) ∧ MarkM d K w' ∧ Turn (fun k => k = d) W w' := by
  rcases h with ⟨rfl, rfl⟩ | ⟨m, rfl, hm⟩
  · exact mcopy_nil d W hd
  · exact mcopy_any d m K W hd (hm.turn (S := fun _ => False) (Turn.of_below b) id) (by have := hm.lt; omega)
theorem MarkM.same {m : Nat} {K : List (List UInt8)} {w w' : World} (h : MarkM m K w) (e : w'.heap[m]? = w.heap[m]?) : MarkM m K w' := by
  obtain ⟨es, ck, h1, h2⟩ := h
  exact ⟨es, ck, ⟨e.trans h1.map, h1.old, h1.bn, h1.xn⟩, h2⟩
theorem mqc_oneCell {q : Mq} {w : World} (h : MeR w q.m q.vf q.vs) : ∀ u ∈ mqc q, u.oneCell' = true := by
  obtain ⟨a, c, e⟩ := rd_form h.1
  obtain ⟨a', c', e'⟩ := rd_form h.2.1
  intro u hu
  unfold mqc at hu
  rw [e, e'] at hu
  simp only [List.mem_cons, List.not_mem_nil, or_false] at hu
  rcases hu with rfl | rfl | rfl | rfl | rfl | rfl | rfl | rfl <;> rfl
theorem bel_allocP {a w : World} {o : Obj} (h : Below a.heap.size a w) : Below a.heap.size a (w.alloc o) := h.alloc h.size o
theorem bel_monoP {a c d : World} (h : Below a.heap.size a c) (k : Below c.heap.size c d) : Below a.heap.size a d := h.trans (k.mono h.size)
theorem lit_cellsP (w2 : World) (cs : Array Value) (T : TypeId) : ∀ j u, cs.toList[j]? = some u → (w2.alloc (.cells cs T)).cell? ((⟨w2.heap.size, 0, none⟩ : Addr).add j) = some u := by
  intro j u hu
  rw [Addr.add_lit, Nat.zero_add]
  have := Lib.cell_of_heap (heap_alloc_new w2 (.cells cs T)) j
  rw [this, ← hu]
  simp
/-- New's boxes while metas are copied. -/
structure NwL (w wr : World) (t : Int) (v2 : Value) (qs : List Mq) : Prop where
  box : wr.heap[w.heap.size + 1 + 1]? = some (.cells #[.int .i64 t, v2, .map (some (w.heap.size + 1))] 26 (0, 0))
  res : wr.heap[w.heap.size]? = some (.cells #[.int .i64 0, .slice none 0 0, .map none] 26 (0, 0))
  mp : MarkM (w.heap.size + 1) [] wr
  ms : MsN wr (w.heap.size + 3) v2 qs
  below : Below w.heap.size w wr
  big : w.heap.size + 3 ≤ wr.heap.size

/-- Where a listing's memory is: not below. -/
def LstLo (base : Nat) (v : Value) (rs : List Mq) : Prop := ∃ t ms mp, v = .agg #[.int .i64 t, ms, .map (some mp)] ∧ (∀ k, ms.ownBlock = some k → base ≤ k) ∧ base ≤ mp ∧ ∀ q ∈ rs, (∀ k, q.vf.ownBlock = some k → base ≤ k) ∧ ∀ k, q.vs.ownBlock = some k → base ≤ k
theorem zc_met : (Try.prog.info? 53).map (fun i => (i.zero, i.size, i.bytes)) = some (some (.agg #[.string ⟨#[]⟩, .int .i64 0, .int .i64 0, .int .i64 0, .int .i64 0, .int .i64 0, .slice none 0 0, .slice none 0 0]), 8, 104) := by kernel_rfl
set_option maxHeartbeats 2000000 in
set_option maxRecDepth 100000 in
theorem lnewg_any (t : Int) (v : Value) (qs : List Mq) (mk : Value) (K : List (List UInt8)) (w : World) (h : MsR w v qs) (hup : UpQ qs) (hm : qs.length ≤ 1000) (hk : MkV w mk K) :
    Calls Try.prog 19 #[.int .i64 t, v, mk] w fun e w' => ∃ v' rs, e = .returned v' ∧ rs.map Mq.m = qs.map Mq.m ∧ LstR w' v' t rs K ∧ Below w.heap.size w w' ∧ LstLo w.heap.size v' rs := by
  obtain ⟨i0, hi, hz0, hz1, hz2⟩ := info_parts zc_met
  have Hz := Lib.hid hz0; have Hs := Lib.hid hz1; have Hb := Lib.hid hz2; have Hi := Lib.hid hi
  clear hz0 hz1 hz2 hi
  have hmm := @run_makeMap Try.prog
  have HH := Lib.hid h
  have HK := Lib.hid hk
  have HUP := Lib.hid hup
  obtain ⟨_, ad, cap, g, off, rfl, hg, hc⟩ := h.rd
  have HQ := Lib.hid (fun W (bb : Below w.heap.size w W) i q (hq : qs[i]? = some q) (h0 : 0 < qs.length) => mq_at hc bb (hg h0).2 i q hq)
  have HG := Lib.hid hg
  clear h hg hc hk hup
  obtain ⟨N, hN⟩ : ∃ N, N = qs.length := ⟨_, rfl⟩
  have HN := Lib.hid hN
  rw [← hN] at hm HG ⊢
  clear hN
  have T0 : NwL w (((w.alloc (.cells #[.int .i64 0, .slice none 0 0, .map none] 26)).alloc (.map #[] 0)).alloc (.cells #[.int .i64 t, .slice none 0 0, .map (some (w.heap.size + 1))] 26)) t (.slice none 0 0) [] := by
    obtain ⟨X, hX⟩ : ∃ X : Obj, X = .cells #[.int .i64 0, .slice none 0 0, .map none] 26 := ⟨_, rfl⟩
    obtain ⟨Z, hZ⟩ : ∃ Z : Obj, Z = .cells #[.int .i64 t, .slice none 0 0, .map (some (w.heap.size + 1))] 26 := ⟨_, rfl⟩
    rw [← hX, ← hZ]
    have s1 : (w.alloc X).heap.size = w.heap.size + 1 := by simp
    have s2 : ((w.alloc X).alloc (.map #[] 0)).heap.size = w.heap.size + 1 + 1 := by simp
    have b0 := heap_alloc_new ((w.alloc X).alloc (.map #[] 0)) Z
    rw [s2] at b0
    have b1 := heap_alloc_new (w.alloc X) (.map #[] 0)
    rw [s1] at b1
    refine ⟨by rw [b0, hZ], ?_, ?_, MsN.nil _ _, ((((Below.refl _ _).alloc (Nat.le_refl _) _).alloc (by omega) _).alloc (by omega) _), by simp⟩
    · rw [Below.heap_alloc ((w.alloc X).alloc (.map #[] 0)) Z w.heap.size (by omega), Below.heap_alloc (w.alloc X) _ w.heap.size (by omega), heap_alloc_new, hX]
    · refine MarkM.new ?_
      show (((w.alloc X).alloc (.map #[] 0)).alloc Z).heap[w.heap.size + 1]? = _
      rw [Below.heap_alloc ((w.alloc X).alloc (.map #[] 0)) Z (w.heap.size + 1) (by omega), b1]
      rfl
  have HT0 := Lib.hid T0
  clear T0
  go_enter Try.func19, Try.ntmps19
  go_wp2_with fail
  go_loopw [15] (fun i' wr => ∃ (i : Nat) (v2 : Value) (rs : List Mq), i' = .int .i64 i ∧ i ≤ N ∧ Hid (rs.map Mq.m = (qs.take i).map Mq.m) ∧ Hid (rs.length = i) ∧ NwL w wr t v2 rs) (fun i' _ => N - (RowKit.intOf i').toNat)
  case atStart => exact ⟨0, _, [], rfl, Nat.zero_le _, rfl, rfl, HT0.out⟩
  case round =>
    clear HT0
    obtain ⟨W0, rfl⟩ : ∃ W0, W0 = wr := ⟨_, rfl⟩
    obtain ⟨i, v2, rs, rfl, hi, hrm, hrl, td⟩ := hrel
    by_cases hlt : i < N
    · obtain ⟨rfl, hgl⟩ := HG.out (by omega)
      obtain ⟨q, hq⟩ : ∃ q, qs[i]? = some q := ⟨_, List.getElem?_eq_getElem (by have := HN.out; omega)⟩
      have mq := (HH.out.ok q (List.mem_of_getElem? hq)).on td.below
      have hqq := HQ.out W0 td.below i q hq (by have := HN.out; omega)
      have HTK := Lib.hid (show (qs.take (i + 1)).map Mq.m = (qs.take i).map Mq.m ++ [q.m] by rw [List.take_add_one, hq, List.map_append]; rfl)
      obtain ⟨m, vf, vs⟩ := q
      replace mq : MeR W0 m vf vs := mq
      obtain ⟨af, kf, rfl⟩ := rd_form mq.1
      obtain ⟨a3, ks, rfl⟩ := rd_form mq.2.1
      obtain ⟨nf, hnf⟩ : ∃ nf, nf = m.files.length := ⟨_, rfl⟩
      obtain ⟨ns, hns⟩ : ∃ ns, ns = m.src.length := ⟨_, rfl⟩
      rw [← hnf, ← hns] at mq hqq
      obtain ⟨q0, q1, q2, q3, q4, q5, q6, q7⟩ := hqq
      simp only at q0 q1 q2 q3 q4 q5 q6 q7
      have hil : (i : Int) < N := by omega
      have hsl := td.ms.sl
      rw [hrl.out] at hsl
      obtain ⟨a2, k2, rfl⟩ := hsl.slice
      have TD := Lib.hid td
      have hbig := td.big
      have MQ := Lib.hid mq
      have HNF := Lib.hid hnf
      have HNS := Lib.hid hns
      have W1X := Lib.hid (show (W0.alloc (.cells #[.string (bs m.id), .int .i64 m.mn, .int .i64 m.mx, .int .i64 m.lv, .int .i64 m.se, .int .i64 m.sa, .slice af nf kf, .slice a3 ns ks] 53)).heap.size = W0.heap.size + 1 ∧ (W0.alloc (.cells #[.string (bs m.id), .int .i64 m.mn, .int .i64 m.mx, .int .i64 m.lv, .int .i64 m.se, .int .i64 m.sa, .slice af nf kf, .slice a3 ns ks] 53)).heap[W0.heap.size]? = some (.cells #[.string (bs m.id), .int .i64 m.mn, .int .i64 m.mx, .int .i64 m.lv, .int .i64 m.se, .int .i64 m.sa, .slice af nf kf, .slice a3 ns ks] 53) ∧ Below W0.heap.size W0 (W0.alloc (.cells #[.string (bs m.id), .int .i64 m.mn, .int .i64 m.mx, .int .i64 m.lv, .int .i64 m.se, .int .i64 m.sa, .slice af nf kf, .slice a3 ns ks] 53)) from ⟨by simp, heap_alloc_new _ _, (Below.refl _ _).alloc (Nat.le_refl _) _⟩)
      have FX := Lib.hid (fun W (bb : Below (W0.alloc (.cells #[.string (bs m.id), .int .i64 m.mn, .int .i64 m.mx, .int .i64 m.lv, .int .i64 m.se, .int .i64 m.sa, .slice af nf kf, .slice a3 ns ks] 53)).heap.size (W0.alloc (.cells #[.string (bs m.id), .int .i64 m.mn, .int .i64 m.mx, .int .i64 m.lv, .int .i64 m.se, .int .i64 m.sa, .slice af nf kf, .slice a3 ns ks] 53)) W) => show W.cell? ⟨w.heap.size + 1 + 1, 1, none⟩ = some (.slice a2 i k2) ∧ W.cell? ⟨W0.heap.size, 0, none⟩ = some (.string (bs m.id)) ∧ W.cell? ⟨W0.heap.size, 1, none⟩ = some (.int .i64 m.mn) ∧ W.cell? ⟨W0.heap.size, 2, none⟩ = some (.int .i64 m.mx) ∧ W.cell? ⟨W0.heap.size, 3, none⟩ = some (.int .i64 m.lv) ∧ W.cell? ⟨W0.heap.size, 4, none⟩ = some (.int .i64 m.se) ∧ W.cell? ⟨W0.heap.size, 5, none⟩ = some (.int .i64 m.sa) ∧ W.cell? ⟨W0.heap.size, 6, none⟩ = some (.slice af nf kf) ∧ W.cell? ⟨W0.heap.size, 7, none⟩ = some (.slice a3 ns ks) from by
        have e1 := (bb.block (w.heap.size + 1 + 1) (by rw [W1X.out.1]; omega)).trans ((W1X.out.2.2.block (w.heap.size + 1 + 1) (by omega)).trans TD.out.box)
        have e2 := (bb.block W0.heap.size (by rw [W1X.out.1]; omega)).trans W1X.out.2.1
        exact ⟨Lib.cell_of_heap e1 1, cells8 e2⟩)
      have FX0 := Lib.hid (fun W (bb : Below (W0.alloc (.cells #[.string (bs m.id), .int .i64 m.mn, .int .i64 m.mx, .int .i64 m.lv, .int .i64 m.se, .int .i64 m.sa, .slice af nf kf, .slice a3 ns ks] 53)).heap.size (W0.alloc (.cells #[.string (bs m.id), .int .i64 m.mn, .int .i64 m.mx, .int .i64 m.lv, .int .i64 m.se, .int .i64 m.sa, .slice af nf kf, .slice a3 ns ks] 53)) W) => show W.heap[w.heap.size + 1 + 1]? = some (.cells #[.int .i64 t, .slice a2 i k2, .map (some (w.heap.size + 1))] 26 (0, 0)) ∧ W.heap[W0.heap.size]? = some (.cells #[.string (bs m.id), .int .i64 m.mn, .int .i64 m.mx, .int .i64 m.lv, .int .i64 m.se, .int .i64 m.sa, .slice af nf kf, .slice a3 ns ks] 53) from
        ⟨(bb.block (w.heap.size + 1 + 1) (by rw [W1X.out.1]; omega)).trans ((W1X.out.2.2.block (w.heap.size + 1 + 1) (by omega)).trans TD.out.box), (bb.block W0.heap.size (by rw [W1X.out.1]; omega)).trans W1X.out.2.1⟩)
      have SLW0 := Lib.hid hsl
      have HRL := Lib.hid hrl.out
      have HRM := Lib.hid hrm.out
      have CP0 := fun W (bb : Below W0.heap.size W0 W) => copyOf_any m (.slice af nf kf) (.slice a3 ns ks) W (MQ.out.on bb)
      unfold meV at CP0
      have CP := Lib.hid CP0
      have SLX := Lib.hid (fun W (bb : Below (W0.alloc (.cells #[.string (bs m.id), .int .i64 m.mn, .int .i64 m.mx, .int .i64 m.lv, .int .i64 m.se, .int .i64 m.sa, .slice af nf kf, .slice a3 ns ks] 53)).heap.size (W0.alloc (.cells #[.string (bs m.id), .int .i64 m.mn, .int .i64 m.mx, .int .i64 m.lv, .int .i64 m.se, .int .i64 m.sa, .slice af nf kf, .slice a3 ns ks] 53)) W) => show Sl W (w.heap.size + 3) 8 (.slice a2 i k2) i (msc rs) from (hsl.on W1X.out.2.2).on bb)
      have hi1 : i + 1 ≤ maxLen := by unfold maxLen; omega
      have hi2 : (i + 1) * 104 ≤ 140737488355328 := by omega
      clear td hsl hrm hq mq hnf hns CP0
      have B0 := Below.refl (W0.alloc (.cells #[.string (bs m.id), .int .i64 m.mn, .int .i64 m.mx, .int .i64 m.lv, .int .i64 m.se, .int .i64 m.sa, .slice af nf kf, .slice a3 ns ks] 53)).heap.size (W0.alloc (.cells #[.string (bs m.id), .int .i64 m.mn, .int .i64 m.mx, .int .i64 m.lv, .int .i64 m.se, .int .i64 m.sa, .slice af nf kf, .slice a3 ns ks] 53))
      obtain ⟨p1, x0, x1, x2, x3, x4, x5, x6, x7⟩ := FX.out _ B0
      go_upto_region 5 with fail
      have BQ := B0.drew
      go_region_law
        (first
          | (refine step_append_sl rfl _ _ 23 rfl (w.heap.size + 3) 53 i0 (.agg #[.string ⟨#[]⟩, .int .i64 0, .int .i64 0, .int .i64 0, .int .i64 0, .int .i64 0, .slice none 0 0, .slice none 0 0]) 8 104 Try.underlying23 Hi.out Hz.out Hs.out Hb.out rfl (by decide) _ i (msc rs) rfl (SLX.out _ (by with_reducible repeat (first | exact Below.refl _ _ | assumption | apply Below.drew | apply bel_allocP))) ⟨w2.heap.size, 0, none⟩ 1 1 [.string (bs m.id), .int .i64 m.mn, .int .i64 m.mx, .int .i64 m.lv, .int .i64 m.se, .int .i64 m.sa, .slice a4 m.files.length k4, .slice a5 m.src.length k5] rfl rfl (by first | exact lit_cellsP w2 _ _ | exact lit_cellsP w2.drew _ _) (mqc_oneCell (q := ⟨m, .slice a4 m.files.length k4, .slice a5 m.src.length k5⟩) mr2) hi1 hi2 (by simp; omega) ?_; intro v5 w5 x5'; obtain ⟨a6, k6, rfl⟩ := x5'.now.slice; have bb5 := x5'.below (B := w.heap.size + 3) (Nat.le_refl _) (by simp; omega); have e1 := (bb5.block (w.heap.size + 1 + 1) (by omega)).trans (FX0.out _ (by with_reducible repeat (first | exact Below.refl _ _ | assumption | apply Below.drew | apply bel_allocP))).1; have e2 := (x5'.grown.block W0.heap.size (by simp; omega) (fun e => by have h9 := (SLW0.out.lt _ e.symm).2; omega)).trans (FX0.out _ (by with_reducible repeat (first | exact Below.refl _ _ | assumption | apply Below.drew | apply bel_allocP))).2; have c5 := Lib.cell_of_heap e1 1; have fz5 := Lib.frozen_of_heap e1 1; have BOX5 := Lib.hid e1; have Z5 := Lib.hid bb5.size; have MS5 := Lib.hid ((TD.out.ms.on (W1X.out.2.2.trans (Below.mono (by with_reducible repeat (first | exact Below.refl _ _ | assumption | apply Below.drew | apply bel_allocP)) (by rw [W1X.out.1]; omega)))).push HRL.out (q := ⟨m, .slice a4 m.files.length k4, .slice a5 m.src.length k5⟩) x5' (mr2.on (by with_reducible repeat (first | exact Below.refl _ _ | assumption | apply Below.drew | apply bel_allocP))) (fun _ k hk e => by have h8 := O1 k hk; have h9 := (SLW0.out.lt k e).2; omega) (fun _ k hk e => by have h8 := O2 k hk; have h9 := (SLW0.out.lt k e).2; omega) ⟨fun k hk => by have h8 := O1 k hk; omega, fun k hk => by have h8 := O2 k hk; omega⟩); have RES5 := Lib.hid ((bb5.block w.heap.size (by omega)).trans (Eq.trans (Below.block (by with_reducible repeat (first | exact Below.refl _ _ | assumption | apply Below.drew | apply bel_allocP)) w.heap.size (by rw [W1X.out.1]; omega)) ((W1X.out.2.2.block w.heap.size (by omega)).trans TD.out.res))); have MK5 := Lib.hid (((bb5.block (w.heap.size + 1) (by omega)).trans (Eq.trans (Below.block (by with_reducible repeat (first | exact Below.refl _ _ | assumption | apply Below.drew | apply bel_allocP)) (w.heap.size + 1) (by rw [W1X.out.1]; omega)) (W1X.out.2.2.block (w.heap.size + 1) (by omega))))); have BW5 := Lib.hid (TD.out.below.trans ((W1X.out.2.2.mono (by omega)).trans ((Below.mono (by with_reducible repeat (first | exact Below.refl _ _ | assumption | apply Below.drew | apply bel_allocP)) (by rw [W1X.out.1]; omega)).trans (bb5.mono (by omega))))); have BIG5 := Lib.hid (show w.heap.size + 3 ≤ w5.heap.size by have h8 := bb5.size; simp at h8; omega); clear bb5 e1 e2 x5')
          | (go_simp; go_wp2_with (go_at_call 34; (with_reducible refine (CP.out _ (by with_reducible repeat (first | exact W1X.out.2.2 | apply Below.drew))).mono ?_); rintro e w2 ⟨vf2, vs2, rfl, mr2, o1, o2, b2⟩; obtain ⟨a4, k4, rfl⟩ := rd_form mr2.1; obtain ⟨a5, k5, rfl⟩ := rd_form mr2.2.1; have B2 : Below (W0.alloc (.cells #[.string (bs m.id), .int .i64 m.mn, .int .i64 m.mx, .int .i64 m.lv, .int .i64 m.se, .int .i64 m.sa, .slice af nf kf, .slice a3 ns ks] 53)).heap.size (W0.alloc (.cells #[.string (bs m.id), .int .i64 m.mn, .int .i64 m.mx, .int .i64 m.lv, .int .i64 m.se, .int .i64 m.sa, .slice af nf kf, .slice a3 ns ks] 53)) w2 := bel_monoP (by with_reducible repeat (first | exact Below.refl _ _ | assumption | apply Below.drew | apply bel_allocP)) b2; have c1' := (FX.out _ B2).1; have c1n := (FX.out _ (bel_allocP (o := .cells #[.string (bs m.id), .int .i64 m.mn, .int .i64 m.mx, .int .i64 m.lv, .int .i64 m.se, .int .i64 m.sa, .slice a4 m.files.length k4, .slice a5 m.src.length k5] 53) B2)).1; have B2Z : W0.heap.size + 1 ≤ w2.heap.size := (by have h9 := B2.size; rw [W1X.out.1] at h9; exact h9); have O1 : ∀ k, (Value.slice a4 m.files.length k4).ownBlock = some k → W0.heap.size + 1 ≤ k := (fun k hk => by have h9 : (W0.alloc (.cells #[.string (bs m.id), .int .i64 m.mn, .int .i64 m.mx, .int .i64 m.lv, .int .i64 m.se, .int .i64 m.sa, .slice af nf kf, .slice a3 ns ks] 53)).heap.size ≤ k := o1 k hk; rw [W1X.out.1] at h9; exact h9); have O2 : ∀ k, (Value.slice a5 m.src.length k5).ownBlock = some k → W0.heap.size + 1 ≤ k := (fun k hk => by have h9 : (W0.alloc (.cells #[.string (bs m.id), .int .i64 m.mn, .int .i64 m.mx, .int .i64 m.lv, .int .i64 m.se, .int .i64 m.sa, .slice af nf kf, .slice a3 ns ks] 53)).heap.size ≤ k := o2 k hk; rw [W1X.out.1] at h9; exact h9); clear o1 o2 b2)))
      all_goals
        have DONE := Lib.hid (show NwL w (w5.setCell ⟨w.heap.size + 1 + 1, 1, none⟩ (.slice a6 (i + 1) k6)) t (.slice a6 (i + 1) k6) (rs ++ [⟨m, .slice a4 m.files.length k4, .slice a5 m.src.length k5⟩]) from ⟨by rw [heap_setCell_same w5 (w.heap.size + 1 + 1) 1 _ _ (.slice a6 (i + 1) k6) BOX5.out]; rfl, (Below.heap_setCell w5 ⟨w.heap.size + 1 + 1, 1, none⟩ (.slice a6 (i + 1) k6) w.heap.size (by simp only; omega)).trans RES5.out, TD.out.mp.same ((Below.heap_setCell w5 ⟨w.heap.size + 1 + 1, 1, none⟩ (.slice a6 (i + 1) k6) (w.heap.size + 1) (by simp only; omega)).trans MK5.out), MS5.out.else _ _ _ (by omega), BW5.out.setCell (p := ⟨w.heap.size + 1 + 1, 1, none⟩) (by simp only; omega) _, by simp only [World.size_setCell]; exact BIG5.out⟩)
        go_wp2_with fail
        exact ⟨⟨i + 1, _, _, by simp, by omega, Lib.hid (by rw [List.map_append, HTK.out, HRM.out]; rfl), Lib.hid (by rw [List.length_append, HRL.out]; rfl), DONE.out⟩, by simp [RowKit.intOf]; omega⟩
    · have hil : ¬ (i : Int) < N := by omega
      have hiN : i = N := by omega
      have hall : rs.map Mq.m = qs.map Mq.m := by rw [hrm.out, hiN, HN.out, List.take_length]
      have HALL := Lib.hid hall
      have HRL := Lib.hid hrl.out
      have hsl := td.ms.sl
      rw [hrl.out] at hsl
      obtain ⟨a2, k2, rfl⟩ := hsl.slice
      have TD := Lib.hid td
      have hbig := td.big
      have BX := Lib.hid (fun W (bb : Below W0.heap.size W0 W) => show W.heap[w.heap.size + 1 + 1]? = some (.cells #[.int .i64 t, .slice a2 i k2, .map (some (w.heap.size + 1))] 26 (0, 0)) ∧ W.heap[w.heap.size]? = some (.cells #[.int .i64 0, .slice none 0 0, .map none] 26 (0, 0)) from ⟨(bb.block _ (by omega)).trans td.box, (bb.block _ (by omega)).trans td.res⟩)
      have ST := Lib.hid (stableS_any (.slice a2 i k2) rs W0 td.ms.read (HUP.out.of hall) (by rw [hrl.out]; omega))
      have c1 := Lib.cell_of_heap td.box 1
      clear td hsl hrm hrl hall hi hiN
      go_wp2_with (first
        | (go_at_call 35; (with_reducible refine ST.out.mono ?_); rintro e w1 ⟨rfl, b1⟩; have B1 := Lib.hid b1; have c2 := Lib.cell_of_heap (BX.out _ b1).1 2; have MC := Lib.hid (HK.out.copy (TD.out.below.trans (b1.mono (by omega))) (TD.out.mp.turn (S := fun _ => False) (Turn.of_below b1) id) (by omega)); clear b1 c1)
        | (go_at_call 38; (with_reducible refine MC.out.mono ?_); rintro e w2 ⟨rfl, mk2, t2⟩; have T2 := Lib.hid t2; have M2 := Lib.hid mk2; have zz := B1.out.size; have e1 := (t2.block (w.heap.size + 1 + 1) (by omega) (by omega)).trans (BX.out _ B1.out).1; have e2 := (t2.block w.heap.size (by omega) (by omega)).trans (BX.out _ B1.out).2; have d0 := Lib.cell_of_heap e1 0; have d1 := Lib.cell_of_heap e1 1; have d2 := Lib.cell_of_heap e1 2; have g0 := Lib.frozen_of_heap e2 0; have g1 := Lib.frozen_of_heap e2 1; have g2 := Lib.frozen_of_heap e2 2; have y0 := Lib.cell_of_heap e2 0; have y1 := Lib.cell_of_heap e2 1; have y2 := Lib.cell_of_heap e2 2; clear t2 mk2 e1 e2)
        | fail)
      refine bodyPost_ret (v := .agg #[.int .i64 t, .slice a2 i k2, .map (some (w.heap.size + 1))]) (by simp [results, Try.results19, go_sem, y0, y1, y2]) rfl ?_
      have t3 : Turn (fun k => k = w.heap.size) w2 (((w2.setCell ⟨w.heap.size, 0, none⟩ (.int .i64 t)).setCell ⟨w.heap.size, 1, none⟩ (.slice a2 i k2)).setCell ⟨w.heap.size, 2, none⟩ (.map (some (w.heap.size + 1)))) := (((Turn.refl (fun k => k = w.heap.size) w2).setCell ⟨w.heap.size, 0, none⟩ _ rfl).setCell ⟨w.heap.size, 1, none⟩ _ rfl).setCell ⟨w.heap.size, 2, none⟩ _ rfl
      have z2 := T2.out.size
      refine ⟨_, rs, rfl, HALL.out, ⟨_, _, rfl, ?_, M2.out.turn t3 (by omega)⟩, ?_, ⟨_, _, _, rfl, fun k hk => by have := (TD.out.ms.sl.lt k hk).1; omega, by omega, fun q hq => ⟨fun k hk => by have := (TD.out.ms.lo q hq).1 k hk; omega, fun k hk => by have := (TD.out.ms.lo q hq).2 k hk; omega⟩⟩⟩
      · exact (((TD.out.ms.on B1.out).turn T2.out (fun k hk e => by omega)).turn t3 (fun k hk e => by omega)).read
      · exact (TD.out.below.trans (B1.out.mono (by omega))).trans ((T2.out.below (B := w.heap.size) (by omega) (fun k hk => by omega)).trans (t3.below (B := w.heap.size) (by omega) (fun k hk => by omega)))
theorem lnew_any (t : Int) (v : Value) (qs : List Mq) (mk : Value) (K : List (List UInt8)) (w : World) (h : MsR w v qs) (hup : UpQ qs) (hm : qs.length ≤ 20) (hk : MkV w mk K) :
    Calls Try.prog 19 #[.int .i64 t, v, mk] w fun e w' => ∃ v' rs, e = .returned v' ∧ rs.map Mq.m = qs.map Mq.m ∧ LstR w' v' t rs K ∧ Below w.heap.size w w' ∧ LstLo w.heap.size v' rs := lnewg_any t v qs mk K w h hup (by omega) hk
end Go.Proofs.Ytkialkjhjenkhaa

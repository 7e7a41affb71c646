/- Layer 25: a ledger; Sure, May, Open, Done, walked. Layer 25: Tried, walked. -/
import Derived.Test.YtfckgcckpfklaaaGreatDoorMDG8
import Derived.Test.YtfckgcckpfklaaaGreatDoorMBld
import Derived.Deep.RegionHeld3
namespace Go.Proofs.YtfckgcckpfklaaaGreatDoor
open Go.RowKit Go.Lib Hp
set_option linter.unusedVariables false

theorem TabF.turn {S : Nat → Prop} {w w' : World} {B K : Nat} {v : Value} {rows : List Rw} (h : TabF w B K v rows) (t : Turn S w w') (hS : ∀ k, S k → k < B) : TabF w' B K v rows := by
  obtain ⟨⟨h0, h00, h01⟩, qs, h1, h2, h3⟩ := h
  have key : ∀ {size n : Nat} {x : Value} {xs : List Value}, Rd w size x n xs → (∀ k, x.ownBlock = some k → B ≤ k) → Rd w' size x n xs := fun hr hk =>
    hr.same t.size fun k e hlt => t.block k hlt fun hs => by have := hS k hs; have := hk k e; omega
  refine ⟨⟨h0, h00, h01⟩, qs, h1, key h2 h01, fun q hq => ?_⟩
  obtain ⟨ok, c, a1, a2⟩ := h3 q hq
  exact ⟨⟨key ok.l a1, key ok.s a2, ok.hl, ok.hs⟩, c, a1, a2⟩
theorem TabF.on {w w' : World} {B K : Nat} {v : Value} {rows : List Rw} (h : TabF w B K v rows) (b : Below w.heap.size w w') : TabF w' B K v rows :=
  h.turn (S := fun _ => False) (Turn.of_below b) fun _ h => h.elim
/-- Points in memory of their own. -/
def PtsF (w : World) (B : Nat) (v : Value) (ps : List Pq) : Prop := PtsR w v ps ∧ (∀ k, v.ownBlock = some k → B ≤ k) ∧ ∀ p ∈ ps, ∀ k, p.a.ownBlock = some k → B ≤ k
theorem PtsF.turn {S : Nat → Prop} {w w' : World} {B : Nat} {v : Value} {ps : List Pq} (h : PtsF w B v ps) (t : Turn S w w') (hS : ∀ k, S k → k < B) : PtsF w' B v ps := by
  obtain ⟨⟨h0, h1⟩, h2, h3⟩ := h
  have key : ∀ {size n : Nat} {x : Value} {xs : List Value}, Rd w size x n xs → (∀ k, x.ownBlock = some k → B ≤ k) → Rd w' size x n xs := fun hr hk =>
    hr.same t.size fun k e hlt => t.block k hlt fun hs => by have := hS k hs; have := hk k e; omega
  exact ⟨⟨key h0 h2, fun p hp => ⟨key (h1 p hp).1 (h3 p hp), (h1 p hp).2⟩⟩, h2, h3⟩
theorem PtsF.on {w w' : World} {B : Nat} {v : Value} {ps : List Pq} (h : PtsF w B v ps) (b : Below w.heap.size w w') : PtsF w' B v ps :=
  h.turn (S := fun _ => False) (Turn.of_below b) fun _ h => h.elim
theorem PtsF.mono {w : World} {B B' : Nat} {v : Value} {ps : List Pq} (h : PtsF w B v ps) (hb : B' ≤ B) : PtsF w B' v ps :=
  ⟨h.1, fun k hk => Nat.le_trans hb (h.2.1 k hk), fun p hp k hk => Nat.le_trans hb (h.2.2 p hp k hk)⟩
theorem PtsF.nil (w : World) (B : Nat) : PtsF w B (.slice none 0 0) [] :=
  ⟨⟨⟨rfl, none, 0, 0, 0, rfl, fun h => absurd h (by decide), fun j hj => by simp at hj⟩, fun p hp => absurd hp (by simp)⟩, (fun k h => by cases h), fun p hp => absurd hp (by simp)⟩
theorem TabF.nil (w : World) (B K : Nat) : TabF w B K (.slice none 0 0) [] :=
  ⟨⟨Nat.zero_le _, ⟨none, 0, rfl, Nat.le_refl _⟩, (fun k h => by cases h)⟩, [], rfl, ⟨rfl, none, 0, 0, 0, rfl, fun h => absurd h (by decide), fun j hj => by simp at hj⟩, fun p hp => absurd hp (by simp)⟩

/-- A ledger in a block: what must be there, and what was tried. -/
structure Led (w : World) (b B K : Nat) (sure : List Rw) (ps : List Pq) : Prop where
  lt : b < B
  ex : ∃ sv ov, w.heap[b]? = some (.cells #[sv, ov] 27) ∧ TabF w B K sv sure ∧ PtsF w B ov ps
  up : UpT sure
theorem Led.blk {w : World} {b B K : Nat} {sure : List Rw} {ps : List Pq} (h : Led w b B K sure ps) : b < w.heap.size := by
  obtain ⟨sv, ov, h1, _⟩ := h.ex
  exact (Array.getElem?_eq_some_iff.1 h1).1
theorem Led.on {w w' : World} {b B K : Nat} {sure : List Rw} {ps : List Pq} (h : Led w b B K sure ps) (bb : Below w.heap.size w w') : Led w' b B K sure ps := by
  obtain ⟨sv, ov, h1, h2, h3⟩ := h.ex
  exact ⟨h.lt, ⟨sv, ov, (bb.block b h.blk).trans h1, h2.on bb, h3.on bb⟩, h.up⟩
theorem Led.zero {w : World} {b : Nat} (K : Nat) (h : w.heap[b]? = some (.cells #[.slice none 0 0, .slice none 0 0] 27)) : Led w b (b + 1) K [] [] :=
  ⟨Nat.lt_succ_self _, ⟨_, _, h, TabF.nil _ _ _, PtsF.nil _ _⟩, upT_nil⟩

set_option maxHeartbeats 1000000 in
set_option maxRecDepth 100000 in
theorem sure_any (b B K : Nat) (sure : List Rw) (ps : List Pq) (w : World) (h : Led w b B K sure ps) (hK : K ≤ 100000) :
    Calls Tryz.prog 10 #[.pointer (some ⟨b, 0, none⟩)] w fun e w' => ∃ v' T, e = .returned v' ∧ TabO w' w.heap.size K v' T ∧ rws T = sure ∧ Below w.heap.size w w' := by
  obtain ⟨sv, ov, h1, ⟨⟨h0, h00, h01⟩, qs, rfl, h2, h3⟩, hp⟩ := h.ex
  have C := Lib.hid (own_any sv qs K w (by rw [List.length_map] at h2; exact h2) (fun q hq => (h3 q hq).1) (by rw [List.length_map] at h0; exact h0) hK)
  obtain ⟨a, c, rfl⟩ := h2.slice
  have c0 := Lib.cell_of_heap h1 0
  obtain ⟨n, hn⟩ : ∃ n, n = (qs.map Rq.r).length := ⟨_, rfl⟩
  rw [← hn] at C c0
  clear h h1 h0 h00 h01 h2 h3 hp hn
  go_enter Tryz.func10, Tryz.ntmps10
  go_wp2_with fail
  refine C.out.mono ?_
  rintro e w1 ⟨v1, T, rfl, t1, e1, b1⟩
  go_wp2
  go_ret
  exact ⟨_, T, rfl, t1, e1, b1⟩
set_option maxRecDepth 100000 in
theorem open_any (b B K : Nat) (sure : List Rw) (ps : List Pq) (w : World) (h : Led w b B K sure ps) :
    Calls Tryz.prog 16 #[.pointer (some ⟨b, 0, none⟩)] w fun e w' => e = .returned (.int .i64 ps.length) ∧ w = w' := by
  obtain ⟨sv, ov, h1, _, hp⟩ := h.ex
  obtain ⟨a, c, rfl⟩ := hp.1.1.slice
  have c1 := Lib.cell_of_heap h1 1
  obtain ⟨n, hn⟩ : ∃ n, n = ps.length := ⟨_, rfl⟩
  rw [← hn] at c1 ⊢
  clear h h1 hp hn
  go_enter Tryz.func16, Tryz.ntmps16
  go_wp2
  go_ret
  exact ⟨rfl, rfl⟩
set_option maxHeartbeats 2000000 in
set_option maxRecDepth 100000 in
theorem may_any (b B K : Nat) (sure : List Rw) (ps : List Pq) (w : World) (h : Led w b B K sure ps) (hn : sure.length + ps.length ≤ 100000) (hK : K + ps.length ≤ 100000) :
    Calls Tryz.prog 17 #[.pointer (some ⟨b, 0, none⟩)] w fun e w' => ∃ v' T, e = .returned v' ∧ TabO w' w.heap.size (K + ps.length) v' T ∧ rws T = addF sure (pts ps) ∧ UpT (rws T) ∧ T.length ≤ sure.length + ps.length ∧ Below w.heap.size w w' := by
  have C := Lib.hid (fun W (bb : Below w.heap.size w W) => sure_any b B K sure ps W (h.on bb) (by omega))
  have hup := h.up
  obtain ⟨sv, ov, h1, _, hp⟩ := h.ex
  have HB := h.blk
  have W := Lib.hid (fun v' T w' (t : TabO w' w.heap.size K v' T) (e : rws T = sure) (bb : Below w.heap.size w w') => with_any w.heap.size K v' ov T ps w w' t (by rw [e]; exact hup) hp.1 (Nat.le_refl _) bb (by have h9 := rws_len T; rw [e] at h9; omega) hK)
  obtain ⟨a, c, rfl⟩ := hp.1.1.slice
  have K1 := Lib.hid (fun w' (bb : Below w.heap.size w w') => show w'.cell? ⟨b, 1, none⟩ = some _ from (bb.cell (p := ⟨b, 1, none⟩) HB).trans (Lib.cell_of_heap h1 1))
  have c1 := Lib.cell_of_heap h1 1
  obtain ⟨n, hn1⟩ : ∃ n, n = ps.length := ⟨_, rfl⟩
  rw [← hn1] at W
  rw [← hn1] at c1 K1 hn hK ⊢
  clear h h1 hp hn1 hup
  go_enter Tryz.func17, Tryz.ntmps17
  go_upto_region 1 with fail
  have B0 := (Below.refl w.heap.size w).drew
  go_region_held3 (fun W => W.cell? ⟨b, 1, none⟩ = some (.slice a n c))
    (first | exact c1 | exact K1.out _ B1 | exact K1.out _ B2 | assumption | fail)
    (first
      | (go_at_call 10; ((with_reducible refine (C.out _ B0).mono ?_)); rintro e w1 ⟨v1, T, rfl, t1', e1, b1⟩; have t1 : TabO w1 w.heap.size K v1 T := t1'; clear t1'; have B1 : Below w.heap.size w w1 := B0.trans (b1.mono B0.size))
      | (go_at_call 24; ((with_reducible refine (W.out _ T w1 t1 e1 B1).mono ?_)); rintro e w2 ⟨v2, T2, rfl, t2, e2, u2, l2, b2⟩; have B2 : Below w.heap.size w w2 := B1.trans b2)
      | fail)
  go_wp2
  go_ret
  exact ⟨_, T2, rfl, t2, by rw [e2, e1], u2, by have h9 := rws_len T; rw [e1] at h9; omega, B2⟩

set_option maxHeartbeats 1000000 in
set_option maxRecDepth 100000 in
theorem done_any (b K : Nat) (pv : Value) (ps : List Pq) (w : World) (h : w.heap[b]? = some (.cells #[.slice none 0 0, .slice none 0 0] 27)) (hp : PtsR w pv ps) (hn : ps.length ≤ 100000) (hK : ps.length ≤ K) :
    Calls Tryz.prog 8 #[.pointer (some ⟨b, 0, none⟩), pv] w fun e w' => e = .returned (.tuple #[]) ∧ Led w' b (b + 1) K (addF [] (pts ps)) [] ∧ (∃ sv, w'.heap[b]? = some (.cells #[sv, .slice none 0 0] 27)) ∧ Turn (fun k => k = b) w w' := by
  have C := Lib.hid (with_any w.heap.size 0 (.slice none 0 0) pv [] ps w w (TabO.nil _ _ _ (Nat.le_refl _)) upT_nil hp (Nat.le_refl _) (Below.refl _ _) (by simpa using hn) (by omega))
  obtain ⟨a, c, rfl⟩ := hp.1.slice
  have c0 := Lib.cell_of_heap h 0
  have hb := (Array.getElem?_eq_some_iff.1 h).1
  have FIN := Lib.hid (fun v' w1 T (t1 : TabO w1 w.heap.size (0 + ps.length) v' T) (e1 : rws T = addF (rws []) (pts ps)) (u1 : UpT (rws T)) (l1 : T.length ≤ ([] : List Rq).length + ps.length) (b1 : Below w.heap.size w w1) => show w1.cell? ⟨b, 0, none⟩ = some (.slice none 0 0) ∧ w1.frozen? ⟨b, 0, none⟩ = false ∧ Led (w1.setCell ⟨b, 0, none⟩ v') b (b + 1) K (addF [] (pts ps)) [] ∧ (∃ sv, (w1.setCell ⟨b, 0, none⟩ v').heap[b]? = some (.cells #[sv, .slice none 0 0] 27)) ∧ Turn (fun k => k = b) w (w1.setCell ⟨b, 0, none⟩ v') from by
    have h1 : w1.heap[b]? = some (.cells #[.slice none 0 0, .slice none 0 0] 27) := (b1.block b hb).trans h
    have h2 : (w1.setCell ⟨b, 0, none⟩ v').heap[b]? = some (.cells #[v', .slice none 0 0] 27) := by
      simp only [World.setCell]
      rw [Array.getElem?_modify, if_pos rfl, h1]
      rfl
    have F0 := (t1.mono (K' := K) (by omega)).readF (by simp only [List.length_nil] at l1; omega)
    have T1 : Turn (fun k => k = b) w1 (w1.setCell ⟨b, 0, none⟩ v') := (Turn.refl _ _).setCell _ _ rfl
    have F1 := F0.turn T1 (fun k hk => by omega)
    refine ⟨Lib.cell_of_heap h1 0, Lib.frozen_of_heap h1 0, ⟨Nat.lt_succ_self _, ⟨_, _, h2, ?_, PtsF.nil _ _⟩, ?_⟩, ⟨_, h2⟩, (Turn.of_below b1).trans T1⟩
    · rw [e1] at F1
      exact F1.mono (by omega) (Nat.le_refl _)
    · rw [← e1.trans (show addF (rws []) (pts ps) = addF [] (pts ps) from rfl)]; exact u1)
  obtain ⟨n, hn1⟩ : ∃ n, n = ps.length := ⟨_, rfl⟩
  rw [← hn1] at C FIN
  rw [← hn1]
  clear h hp hn1 hn hK hb
  go_enter Tryz.func8, Tryz.ntmps8
  go_wp2_with fail
  refine C.out.mono ?_
  rintro e w1 ⟨v1, T, rfl, t1, e1, u1, l1, b1⟩
  obtain ⟨f1, f2, f3, f3b, f4⟩ := FIN.out v1 w1 T t1 e1 u1 l1 b1
  obtain ⟨va, vc, rfl⟩ := t1.slice
  clear t1 e1 u1 l1 FIN C
  go_wp2
  go_end0
  exact ⟨rfl, f3, f3b, f4⟩
end Go.Proofs.YtfckgcckpfklaaaGreatDoor

namespace Go.Proofs.YtfckgcckpfklaaaGreatDoor
open Go.RowKit Go.Lib Hp
set_option linter.unusedVariables false

theorem zc_pnt : (Tryz.prog.info? 38).map (fun i => (i.zero, i.size, i.bytes)) = some (some (.agg #[.slice none 0 0, .int .i64 0, .int .u64 0]), 3, 40) := by kernel_rfl
theorem Ext.off3 {base size size2 n0 n m : Nat} {w w' : World} {v0 v x : Value} {xs0 xs ys : List Value} (h : Ext base size w v0 n0 xs0 w' v n xs) (hr : Rd w size2 x m ys) (ho : Off x m v0) : Off x m v := by
  intro hm k hk
  obtain ⟨g, hg, hlt⟩ := hr.own hm
  have hkg : k = g := Option.some.inj (hk.symm.trans hg)
  rcases h.alias with ⟨a, cap, e0, e1, _⟩ | hnew
  · have := ho hm k hk
    rw [e0] at this
    rw [e1, ownBlock_slice a n n0 cap cap]
    exact this
  · intro e
    have := hnew k e
    omega
/-- Points that are being put beside each other, in memory of their own. -/
structure OpN (w : World) (B : Nat) (v : Value) (qs : List Pq) : Prop where
  sl : Sl w B 3 v qs.length (pqc qs)
  ok : ∀ p ∈ qs, Rd w 2 p.a p.ls.length (prc p.ls) ∧ p.ls.length ≤ 1000 ∧ (∀ k, p.a.ownBlock = some k → B ≤ k) ∧ Off p.a p.ls.length v
theorem OpN.nil (w : World) (B : Nat) : OpN w B (.slice none 0 0) [] := ⟨Sl.nil _ _ _, fun p hp => absurd hp (by simp)⟩
theorem OpN.on {w w' : World} {B : Nat} {v : Value} {qs : List Pq} (h : OpN w B v qs) (b : Below w.heap.size w w') : OpN w' B v qs :=
  ⟨h.sl.on b, fun p hp => ⟨(h.ok p hp).1.on b, (h.ok p hp).2⟩⟩
theorem OpN.ptsF {w : World} {B : Nat} {v : Value} {qs : List Pq} (h : OpN w B v qs) : PtsF w B v qs :=
  ⟨⟨Rd.of_sl h.sl, fun p hp => ⟨(h.ok p hp).1, (h.ok p hp).2.1⟩⟩, fun k hk => (h.sl.lt k hk).1, fun p hp => (h.ok p hp).2.2.1⟩
theorem OpN.push {w w' : World} {B : Nat} {v v' : Value} {qs : List Pq} {q : Pq} (h : OpN w B v qs) (hx : Ext B 3 w v qs.length (pqc qs) w' v' (qs.length + 1) (pqc qs ++ [q.a, .int .i64 q.s.t, .int .u64 q.s.v])) (hq : Rd w 2 q.a q.ls.length (prc q.ls)) (hl : q.ls.length ≤ 1000) (hB : ∀ k, q.a.ownBlock = some k → B ≤ k) (ha : Off q.a q.ls.length v) : OpN w' B v' (qs ++ [q]) := by
  refine ⟨?_, fun p hp => ?_⟩
  · rw [List.length_append, pqc_append]
    exact hx.now
  · have key : Rd w 2 p.a p.ls.length (prc p.ls) ∧ p.ls.length ≤ 1000 ∧ (∀ k, p.a.ownBlock = some k → B ≤ k) ∧ Off p.a p.ls.length v := by
      rcases List.mem_append.1 hp with hp | hp
      · exact h.ok p hp
      · rw [List.mem_singleton] at hp
        subst hp
        exact ⟨hq, hl, hB, ha⟩
    obtain ⟨k1, k2, k3, k4⟩ := key
    refine ⟨k1.grown hx.grown (fun hn e => ?_), k2, k3, hx.off3 k1 k4⟩
    obtain ⟨g, hg, _⟩ := k1.own hn
    exact k4 hn g hg (e.symm.trans hg)
theorem OpN.turn {S : Nat → Prop} {w w' : World} {B : Nat} {v : Value} {qs : List Pq} (h : OpN w B v qs) (t : Turn S w w') (hS : ∀ k, S k → k < B) : OpN w' B v qs :=
  ⟨h.sl.same t.size fun k hk => t.block k (h.sl.lt k hk).2 fun hs => by have := hS k hs; have := (h.sl.lt k hk).1; omega,
   fun p hp => ⟨(h.ok p hp).1.same t.size fun k e hlt => t.block k hlt fun hs => by have := hS k hs; have := (h.ok p hp).2.2.1 k e; omega, (h.ok p hp).2⟩⟩

set_option maxHeartbeats 4000000 in
set_option maxRecDepth 100000 in
theorem tried_any (b B K : Nat) (sure : List Rw) (pv : Value) (ps : List Pq) (w : World) (h : Led w b B K sure []) (ho : ∃ sv, w.heap[b]? = some (.cells #[sv, .slice none 0 0] 27)) (hp : PtsF w (b + 1) pv ps) (hn : ps.length ≤ 100000) :
    Calls Tryz.prog 9 #[.pointer (some ⟨b, 0, none⟩), pv] w fun e w' => ∃ qs, e = .returned (.tuple #[]) ∧ Led w' b (b + 1) K sure qs ∧ pts qs = pts ps ∧ Turn (fun k => k = b) w w' := by
  obtain ⟨i0, hi, hz0, hz1, hz2⟩ := info_parts zc_pnt
  have Hz := Lib.hid hz0; have Hs := Lib.hid hz1; have Hb := Lib.hid hz2; have Hi := Lib.hid hi
  clear hz0 hz1 hz2 hi
  obtain ⟨sv, hb⟩ := ho
  have hblt := h.blk
  have hbB := h.lt
  obtain ⟨sv', ov', hb', hF, _⟩ := h.ex
  rw [hb] at hb'
  have hsv : sv' = sv ∧ ov' = .slice none 0 0 := by
    have := Option.some.inj hb'
    injection this with e1 e2
    have e3 := congrArg Array.toList e1
    simp at e3
    exact ⟨e3.1.symm, e3.2.symm⟩
  obtain ⟨rfl, rfl⟩ := hsv
  clear hb'
  have HF := Lib.hid hF; have HUP := Lib.hid h.up
  obtain ⟨sa, sn, sc, rfl⟩ : ∃ a n c, sv' = .slice a n c := by
    obtain ⟨a, c, e, _⟩ := hF.1.2.1
    exact ⟨_, _, _, e⟩
  have HP := Lib.hid hp
  obtain ⟨⟨⟨_, pa, pc, g, off, rfl, hg, hc⟩, hok⟩, hpb, hpp⟩ := hp
  obtain ⟨N, hN⟩ : ∃ N, N = ps.length := ⟨_, rfl⟩
  rw [← hN] at hg hc hn ⊢
  have HN := Lib.hid hN; have HC := Lib.hid hc; have HG := Lib.hid hg; have HOK := Lib.hid hok; have HPB := Lib.hid hpb; have HPP := Lib.hid hpp
  have HB := Lib.hid hb
  clear hF h hN hc hg hok hpb hpp hb
  go_enter Tryz.func9, Tryz.ntmps9
  go_wp2_with fail
  go_loopw [5, 8] (fun _ i' wr => ∃ (i : Nat) (qs : List Pq) (ov : Value), i' = .int .i64 i ∧ i ≤ N ∧ Hid (wr.heap[b]? = some (.cells #[.slice sa sn sc, ov] 27)) ∧ Hid (OpN wr w.heap.size ov qs) ∧ Hid (pts qs = pts (ps.take i)) ∧ Hid (qs.length = i) ∧ Hid (Turn (fun k => k = b) w wr)) (fun _ i' _ => N - (intOf i').toNat)
  case atStart => exact ⟨0, [], .slice none 0 0, rfl, by omega, HB, Lib.hid (OpN.nil _ _), Lib.hid rfl, Lib.hid rfl, Lib.hid (Turn.refl _ _)⟩
  case round =>
    obtain ⟨W0, rfl⟩ : ∃ W0, W0 = wr := ⟨_, rfl⟩
    obtain ⟨i, qs, ov, rfl, hi, hbx, hop, hpts, hlen, htn⟩ := hrel
    by_cases hlt : i < N
    · obtain ⟨⟨xa, xl, ⟨xt, xv⟩⟩, hx⟩ : ∃ p, ps[i]? = some p := ⟨ps[i]'(by have := HN.out; omega), List.getElem?_eq_getElem (by have := HN.out; omega)⟩
      obtain ⟨rfl, hgl⟩ := HG.out (by omega)
      obtain ⟨c0, c1, c2⟩ := pqc_at ps i _ hx
      have hgb : g ≠ b := fun e => by have := HPB.out g rfl; omega
      have t0 := htn.out
      have q0 := (t0.cell (p := ⟨g, off + i * 3, none⟩) hgl hgb).trans ((HC.out (i * 3) (by omega)).trans c0)
      have q1 := (t0.cell (p := ⟨g, off + (i * 3 + 1), none⟩) hgl hgb).trans ((HC.out (i * 3 + 1) (by omega)).trans c1)
      have q2 := (t0.cell (p := ⟨g, off + (i * 3 + 2), none⟩) hgl hgb).trans ((HC.out (i * 3 + 2) (by omega)).trans c2)
      rw [← Nat.add_assoc] at q1 q2
      obtain ⟨xr1, xlen⟩ := HOK.out _ (List.mem_of_getElem? hx)
      have xr : Rd w 2 xa xl.length (prc xl) := xr1
      have xr0 : Rd W0 2 xa xl.length (prc xl) := xr.same t0.size fun k hk hlt => t0.block k hlt fun e => by
        have := HPP.out _ (List.mem_of_getElem? hx) k hk
        omega
      clear xr1
      obtain ⟨ax, cx, rfl⟩ := xr.slice
      obtain ⟨L, hL⟩ : ∃ L, L = xl.length := ⟨_, rfl⟩
      simp only at q0 q1 q2 xlen c0 c1 c2
      have STEP := Lib.hid (show ∀ x, pts (qs ++ [(⟨x, xl, ⟨xt, xv⟩⟩ : Pq)]) = pts (ps.take (i + 1)) from fun x => by
        have e := hpts.out
        rw [List.take_add_one, hx]
        unfold pts at e ⊢
        rw [List.map_append, e]
        simp)
      rw [← hL] at q0 xlen
      obtain ⟨oa, oc, rfl⟩ := hop.out.sl.slice
      obtain ⟨m, hm⟩ : ∃ m, m = qs.length := ⟨_, rfl⟩
      have hmi : m = i := by rw [hm]; exact hlen.out
      rw [← hm] at hbx hop
      subst hmi
      have hz0 := t0.size
      have hbw : b < W0.heap.size := by omega
      obtain ⟨V1, hV1⟩ : ∃ V1, V1 = W0.alloc (.cells #[.slice ax L cx, .int .i64 xt, .int .u64 xv] 38) := ⟨_, rfl⟩
      have b1 : Below W0.heap.size W0 V1 := by rw [hV1]; exact (Below.refl _ _).alloc (Nat.le_refl _) _
      have hbox : V1.heap[W0.heap.size]? = some (.cells #[.slice ax L cx, .int .i64 xt, .int .u64 xv] 38) := by rw [hV1]; exact heap_alloc_new W0 _
      have z1 := (Array.getElem?_eq_some_iff.1 hbox).1
      have CL := Lib.hid (show Calls Tryz.prog 25 #[.slice ax L cx] V1 _ from clone_ls (.slice ax L cx) xl V1 (by rw [hL]; exact xr0.on b1) (by omega))
      have FIN := Lib.hid (fun (x : Value) (w2 W3 V5 : World) (sx : Sl w2 V1.heap.size 2 x xl.length (prc xl)) (b2 : Below V1.heap.size V1 w2) (e3 : W3 = w2.setCell ⟨W0.heap.size, 0, none⟩ x) (e5 : V5 = (W3.alloc (.cells #[x, .int .i64 xt, .int .u64 xv] 38)).drew) => show
          (W3.cell? ⟨b, 1, none⟩ = some (.slice oa m oc) ∧ W3.cell? ⟨W0.heap.size, 0, none⟩ = some x ∧ W3.cell? ⟨W0.heap.size, 1, none⟩ = some (.int .i64 xt) ∧ W3.cell? ⟨W0.heap.size, 2, none⟩ = some (.int .u64 xv)) ∧
          (V5.cell? ⟨b, 1, none⟩ = some (.slice oa m oc) ∧ V5.cell? ⟨W0.heap.size, 0, none⟩ = some x ∧ V5.cell? ⟨W0.heap.size, 1, none⟩ = some (.int .i64 xt) ∧ V5.cell? ⟨W0.heap.size, 2, none⟩ = some (.int .u64 xv)) ∧
          (Sl V5 w.heap.size 3 (.slice oa m oc) m (pqc qs) ∧ (∀ j u, [x, .int .i64 xt, .int .u64 xv][j]? = some u → V5.cell? ((⟨W3.heap.size, 0, none⟩ : Addr).add j) = some u) ∧ w.heap.size ≤ V5.heap.size ∧ ∀ u ∈ [x, Value.int .i64 xt, .int .u64 xv], u.oneCell' = true) ∧
          ∀ v6 w6, Ext w.heap.size 3 V5 (.slice oa m oc) m (pqc qs) w6 v6 (m + 1) (pqc qs ++ [x, .int .i64 xt, .int .u64 xv]) →
            (w6.cell? ⟨b, 1, none⟩ = some (.slice oa m oc) ∧ w6.frozen? ⟨b, 1, none⟩ = false) ∧
            Hid ((w6.setCell ⟨b, 1, none⟩ v6).heap[b]? = some (.cells #[.slice sa sn sc, v6] 27)) ∧ Hid (OpN (w6.setCell ⟨b, 1, none⟩ v6) w.heap.size v6 (qs ++ [⟨x, xl, ⟨xt, xv⟩⟩])) ∧ Hid (Turn (fun k => k = b) w (w6.setCell ⟨b, 1, none⟩ v6)) from by
        have z2 := b2.size
        have sx0 := sx
        obtain ⟨xp, xc, ex⟩ := sx.slice
        have hx2 : w2.heap[W0.heap.size]? = some (.cells #[.slice ax L cx, .int .i64 xt, .int .u64 xv] 38) := (b2.block _ z1).trans hbox
        have hx3 : W3.heap[W0.heap.size]? = some (.cells #[x, .int .i64 xt, .int .u64 xv] 38) := by
          rw [e3]
          simp only [World.setCell]
          rw [Array.getElem?_modify, if_pos rfl, hx2]
          rfl
        have t23 : Turn (fun k => k = W0.heap.size) w2 W3 := by rw [e3]; exact (Turn.refl _ _).setCell _ _ rfl
        have T03 : Turn (fun _ => False) W0 W3 := by
          have B02 : Below W0.heap.size W0 w2 := b1.trans (b2.mono (Nat.le_of_lt z1))
          refine Turn.of_below (B02.trans (t23.below (by omega) fun k hk => by omega))
        have B03 : Below W0.heap.size W0 W3 := T03.below (Nat.le_refl _) fun k hk => hk.elim
        have hb3 : W3.heap[b]? = some (.cells #[.slice sa sn sc, .slice oa m oc] 27) := (B03.block b hbw).trans hbx.out
        have b35 : Below W3.heap.size W3 V5 := by rw [e5]; exact ((Below.refl _ _).alloc (Nat.le_refl _) _).drew
        have hx5 := (b35.block _ (Array.getElem?_eq_some_iff.1 hx3).1).trans hx3
        have hb5 := (b35.block _ (Array.getElem?_eq_some_iff.1 hb3).1).trans hb3
        have op5 : OpN V5 w.heap.size (.slice oa m oc) qs := (hop.out.on B03).on b35
        have sl5 := op5.sl
        rw [← hm] at sl5
        have hlit : V5.heap[W3.heap.size]? = some (.cells #[x, .int .i64 xt, .int .u64 xv] 38) := by rw [e5]; exact heap_alloc_new W3 _
        have B05 : Below W0.heap.size W0 V5 := B03.trans (b35.mono B03.size)
        have z5 := B05.size
        refine ⟨⟨Lib.cell_of_heap hb3 1, Lib.cell_of_heap hx3 0, Lib.cell_of_heap hx3 1, Lib.cell_of_heap hx3 2⟩, ⟨Lib.cell_of_heap hb5 1, Lib.cell_of_heap hx5 0, Lib.cell_of_heap hx5 1, Lib.cell_of_heap hx5 2⟩, ⟨sl5, fun j u hu => ?_, by omega, by rw [ex]; simp [Value.oneCell']⟩, fun v6 w6 h6 => ?_⟩
        · rw [Addr.add_lit, Nat.zero_add, ← hu]
          exact (Lib.cell_of_heap hlit j).trans (by simp)
        · have hne : (Value.slice oa m oc).ownBlock ≠ some b := fun e => by have := (sl5.lt b e).1; omega
          have hb6 : w6.heap[b]? = some (.cells #[.slice sa sn sc, .slice oa m oc] 27) := (h6.grown.block b (by omega) (fun e => hne e.symm)).trans hb5
          have T56 : Turn (fun k => w.heap.size ≤ k) V5 w6 := ⟨h6.grown.os, h6.grown.tape, h6.grown.output, h6.grown.size, fun k hk hne' => h6.grown.block k hk fun e => hne' ((sl5.lt k e.symm).1)⟩
          have T67 : Turn (fun k => k = b) w6 (w6.setCell ⟨b, 1, none⟩ v6) := (Turn.refl _ _).setCell _ _ rfl
          have x5 : Rd V5 2 x xl.length (prc xl) := by
            have x2 : Rd w2 2 x xl.length (prc xl) := Rd.of_sl sx0
            have x3 : Rd W3 2 x xl.length (prc xl) := x2.same t23.size fun k hk hlt => t23.block k hlt fun e => by have := (sx0.lt k hk).1; omega
            exact x3.on b35
          have hxB : ∀ k, x.ownBlock = some k → W0.heap.size ≤ k ∧ V1.heap.size ≤ k := fun k hk => by have := (sx0.lt k hk).1; omega
          have P6 : OpN w6 w.heap.size v6 (qs ++ [⟨x, xl, ⟨xt, xv⟩⟩]) := by
            rw [hm] at h6
            rw [hm] at op5
            refine op5.push h6 x5 (by show xl.length ≤ 1000; omega) (fun k hk => by have := (hxB k hk).1; omega) ?_
            intro hn' k hk e
            have h1 := (hxB k hk).1
            have h2 := (hop.out.sl.lt k (by rw [← hm] at e; exact e)).2
            omega
          refine ⟨⟨Lib.cell_of_heap hb6 1, Lib.frozen_of_heap hb6 1⟩, Lib.hid ?_, Lib.hid (P6.turn T67 fun k hk => by omega), Lib.hid ?_⟩
          · simp only [World.setCell]
            rw [Array.getElem?_modify, if_pos rfl, hb6]
            rfl
          · have T05 : Turn (fun k => k = b) W0 V5 := Turn.of_below B05
            have T06 : Turn (fun k => k = b) w V5 := t0.trans T05
            have T6 : Turn (fun k => k = b) w w6 := ⟨h6.grown.os.trans T06.os, h6.grown.tape.trans T06.tape, h6.grown.output.trans T06.output, Nat.le_trans T06.size h6.grown.size, fun k hk hne' => (h6.grown.block k (by omega) (fun e => by have := (sl5.lt k e.symm).1; omega)).trans (T06.block k hk hne')⟩
            exact T6.trans T67)
      have e0 := Lib.cell_of_heap hbox 0
      have e1 := Lib.cell_of_heap hbox 1
      have e2 := Lib.cell_of_heap hbox 2
      have BOX2 := Lib.hid (fun w2 (bb : Below V1.heap.size V1 w2) => show w2.cell? ⟨W0.heap.size, 0, none⟩ = some (.slice ax L cx) ∧ w2.frozen? ⟨W0.heap.size, 0, none⟩ = false from
        ⟨(bb.cell (p := ⟨W0.heap.size, 0, none⟩) z1).trans (Lib.cell_of_heap hbox 0), (bb.frozen (p := ⟨W0.heap.size, 0, none⟩) z1).trans (Lib.frozen_of_heap hbox 0)⟩)
      have n1 : m + 1 ≤ maxLen := by unfold maxLen; omega
      have n2 : (m + 1) * 40 ≤ 140737488355328 := by omega
      have HLEN := Lib.hid hlen.out
      have HL := Lib.hid hL
      clear hbox z1 b1 hx xr xr0 c0 c1 c2 hL hm t0 hz0 hbw hgb hpts hlen hbx hop htn
      go_upto_region 3 with fail
      rw [← hV1]
      clear hV1 q0 q1 q2
      go_wp2_with fail
      refine CL.out.mono ?_
      rintro e w2 ⟨x, rfl, sx, b2⟩
      obtain ⟨xp, xc, ex⟩ := sx.slice
      obtain ⟨x0, x1⟩ := BOX2.out w2 b2
      obtain ⟨W3, hW3⟩ : ∃ W3, W3 = w2.setCell ⟨W0.heap.size, 0, none⟩ x := ⟨_, rfl⟩
      obtain ⟨V5, hV5⟩ : ∃ V5, V5 = (W3.alloc (.cells #[x, .int .i64 xt, .int .u64 xv] 38)).drew := ⟨_, rfl⟩
      obtain ⟨⟨k1, k2, k3, k4⟩, ⟨j1, j2, j3, j4⟩, ⟨sl5, lit5, z5, one5⟩, E6⟩ := FIN.out x w2 W3 V5 sx b2 hW3 hV5
      have SL5 := Lib.hid sl5; have LIT5 := Lib.hid lit5; have Z5 := Lib.hid z5; have ONE5 := Lib.hid one5; have E6' := Lib.hid E6
      subst ex
      clear sx b2 CL FIN BOX2 sl5 lit5 z5 one5 E6
      go_upto_region 4 with fail
      rw [← hW3]
      rw [hV5] at j1 j2 j3 j4
      clear hW3
      go_region_law (rw [← hV5]; refine step_append_slB rfl _ _ 25 rfl w.heap.size 38 i0 (.agg #[.slice none 0 0, .int .i64 0, .int .u64 0]) 3 40 Tryz.underlying25 Hi.out Hz.out Hs.out Hb.out rfl (by decide) (.slice oa m oc) m (pqc qs) (by simp [Act.eval]) SL5.out ⟨W3.heap.size, 0, none⟩ 1 1 [.slice xp xl.length xc, .int .i64 xt, .int .u64 xv] (by simp [Act.eval]) rfl LIT5.out ONE5.out n1 n2 Z5.out ?_; intro v6 w6 x6; obtain ⟨a6, c6, e6⟩ := x6.now.slice; subst e6; have F6 := E6'.out _ w6 x6; obtain ⟨⟨f61, f62⟩, f63, f64, f65⟩ := F6; clear x6)
      all_goals
        go_wp2
        exact ⟨⟨m + 1, _, _, by go_num, by omega, f63, f64, Lib.hid (STEP.out _), Lib.hid (by rw [List.length_append, HLEN.out]; rfl), f65⟩, by simp [intOf]; omega⟩
    · obtain rfl : i = N := by omega
      go_wp2
      go_end0
      refine ⟨qs, rfl, ⟨Nat.lt_succ_self _, ⟨_, _, hbx.out, ?_, ?_⟩, HUP.out⟩, ?_, htn.out⟩
      · exact (HF.out.turn htn.out (fun k hk => by omega)).mono (by omega) (Nat.le_refl _)
      · exact hop.out.ptsF.mono (by omega)
      · rw [hpts.out, List.take_of_length_le (by have := HN.out; omega)]
end Go.Proofs.YtfckgcckpfklaaaGreatDoor

/- Layer 12: Grow, walked: an index to which series are added, of which some are dropped again. -/
import Derived.Test.YtefhnjepocbodaaGreatDoorMIY2
namespace Go.Proofs.YtefhnjepocbodaaGreatDoor
open Go.RowKit Go.Lib
set_option linter.unusedVariables false

theorem zc_ser : (Tryz.prog.info? 34).map (fun i => (i.zero, i.size, i.bytes)) = some (some (.agg #[.int .i64 0, .slice none 0 0]), 2, 32) := by kernel_rfl
/-- The labels of a series on their way: those of the first j pairs whose names weren't there, twice; the names that were seen. -/
structure InR (W : World) (mp : Nat) (PS : List Pr) (j : Nat) (u v : Value) (P : List Pr) (wr : World) : Prop where
  is : P = uniqN (PS.take j)
  two : Two W.heap.size 2 wr P.length (prc P) u v
  seen : SeenM mp (P.map Pr.n) j wr
  mu : ∀ k, (u.ownBlock = some k ∨ v.ownBlock = some k) → k ≠ mp
  below : Below W.heap.size W wr
  mlt : W.heap.size ≤ mp
/-- A pair whose name was there. -/
theorem InR.skip {W wr w2 : World} {mp j : Nat} {PS P : List Pr} {u v : Value} {p : Pr} {o : Obj} (h : InR W mp PS j u v P wr) (hp : PS[j]? = some p) (hm : p.n ∈ P.map Pr.n) (t : Turn (fun k => k = mp) (wr.alloc o) w2)
    (s : SeenM mp (if p.n ∈ P.map Pr.n then P.map Pr.n else P.map Pr.n ++ [p.n]) (j + 1) w2) : InR W mp PS (j + 1) u v P w2 := by
  rw [if_pos hm] at s
  have hz := h.below.size
  refine ⟨?_, (h.two.on ((Below.refl _ _).alloc (Nat.le_refl _) o)).same t.size fun k hk => t.block k (hk.elim (fun e => by have := (h.two.l.lt k e).2; simp; omega) (fun e => by have := (h.two.r.lt k e).2; simp; omega)) (h.mu k hk), s, h.mu, ?_, h.mlt⟩
  · rw [List.take_add_one, hp]
    show _ = uniqN (PS.take j ++ [p])
    rw [uniqN_snoc, ← h.is]
    unfold uniqStep
    rw [if_pos hm]
  · exact (h.below.alloc hz o).trans (t.below (by simp; omega) fun k hk => by have := h.mlt; omega)
/-- A pair more. -/
theorem InR.next {W wr w2 w3 w4 : World} {mp j : Nat} {PS P : List Pr} {u v u' v' : Value} {p : Pr} {o o2 o3 : Obj} (h : InR W mp PS j u v P wr) (hp : PS[j]? = some p) (hm : p.n ∉ P.map Pr.n) (t : Turn (fun k => k = mp) (wr.alloc o) w2)
    (s : SeenM mp (if p.n ∈ P.map Pr.n then P.map Pr.n else P.map Pr.n ++ [p.n]) (j + 1) w2) (e : Ext W.heap.size 2 (w2.alloc o2) u P.length (prc P) w3 u' (P.length + 1) (prc P ++ prc [p])) (e2 : Ext W.heap.size 2 (w3.alloc o3) v P.length (prc P) w4 v' (P.length + 1) (prc P ++ prc [p])) :
    InR W mp PS (j + 1) u' v' (P ++ [p]) w4 := by
  rw [if_neg hm] at s
  have hz := h.below.size
  have hms := h.seen.lt
  have tz := t.size
  have T2 : Two W.heap.size 2 w2 P.length (prc P) u v := (h.two.on ((Below.refl _ _).alloc (Nat.le_refl _) o)).same t.size fun k hk => t.block k (hk.elim (fun e => by have := (h.two.l.lt k e).2; simp; omega) (fun e => by have := (h.two.r.lt k e).2; simp; omega)) (h.mu k hk)
  have zo : (wr.alloc o).heap.size = wr.heap.size + 1 := by simp
  obtain ⟨a1, a2, a3, a4⟩ := T2.next (by omega) e e2
  refine ⟨?_, by rw [List.length_append, prc_append]; exact a1, ?_, fun k hk => ?_, ?_, h.mlt⟩
  · rw [List.take_add_one, hp]
    show _ = uniqN (PS.take j ++ [p])
    rw [uniqN_snoc, ← h.is]
    unfold uniqStep
    rw [if_neg hm]
  · rw [List.map_append]
    exact s.turn a2 fun hk => h.mu mp hk rfl
  · rcases hk with hk | hk
    · rcases a3 k hk with h1 | h1
      · exact h.mu k (.inl h1)
      · omega
    · rcases a4 k hk with h1 | h1
      · exact h.mu k (.inr h1)
      · omega
  · refine ((h.below.alloc hz o).trans (t.below (by omega) fun k hk => by have := h.mlt; omega)).trans (a2.below (by omega) fun k hk => ?_)
    rcases hk with hk | hk
    · exact (T2.l.lt k hk).1
    · exact (T2.r.lt k hk).1

/-- What Grow has done with the first i series. -/
def Gst (w : World) (b mh ml : Nat) (zs : List Oi) (i : Nat) (tv : Value) (wr : World) : Prop :=
  ∃ va A H ch L cl o qs, IxW w.heap.size b mh ml va A H ch L cl o wr ∧ Grown (growN zs i) A H L ∧ TdW w.heap.size o wr tv qs ∧ qs.map Sx.sr = growN zs i ∧ Below w.heap.size w wr
def GrowP (w : World) (zs : List Oi) (e : Ending) (w' : World) : Prop :=
  ∃ b mh ml tv, e = .returned (.tuple #[.pointer (some ⟨b, 0, none⟩), tv]) ∧ Gst w b mh ml zs zs.length tv w'
theorem tellOf_len (z : Oi) (h : z.ds.length ≤ 10) : (tellOf z).length ≤ 10 := by
  have h1 := uniqN_len (sortS (f42 z.ds))
  rw [sortS_len, f42_len] at h1
  exact Nat.le_trans h1 h
theorem Stp.under {T : Tag → Prop} {base : Nat} {o o' : Own} {w w' : World} (s : Stp T o o' w w') (h : OwnLt base o w) (hb : base ≤ w.heap.size) : Below base w w' := s.turn.below hb fun k ⟨t, h1, _⟩ => (h k t h1).1

theorem SlO.same {base : Nat} {o : Own} {t : Tag} {w w' : World} {size n : Nat} {v : Value} {xs : List Value} (h : SlO base o t w size v n xs) (hs : w.heap.size ≤ w'.heap.size) (hb : ∀ k t, o k = some t → w'.heap[k]? = w.heap[k]?) : SlO base o t w' size v n xs :=
  ⟨h.1.same hs fun k hk => hb k _ (h.2 k hk), h.2⟩
/-- Where no block of it is turned. -/
theorem IxW.same {base b mh ml : Nat} {va : Value} {A : List Int} {H : List HEn} {ch : Nat} {L : List LEn} {cl : Nat} {o : Own} {w w' : World} (h : IxW base b mh ml va A H ch L cl o w) (hs : w.heap.size ≤ w'.heap.size) (hb : ∀ k t, o k = some t → w'.heap[k]? = w.heap[k]?) :
    IxW base b mh ml va A H ch L cl o w' :=
  ⟨(hb _ _ h.ob).trans h.box, h.ob, h.oh, h.ol, fun k t hk => ⟨(h.lt k t hk).1, Nat.lt_of_lt_of_le (h.lt k t hk).2 hs⟩, h.all.same hs hb, (hb _ _ h.oh).trans h.mapH, (hb _ _ h.ol).trans h.mapL,
    fun e he => ⟨(h.inner e he).1, (hb _ _ (h.inner e he).1).trans (h.inner e he).2.1, fun x hx => ((h.inner e he).2.2.1 x hx).same hs hb, (h.inner e he).2.2.2⟩, fun e he => SlO.same (h.labs e he) hs hb, h.keysH, h.keysL, h.bornH⟩

/-- A series is added: what is said then. -/
theorem gst_add {w W0 w3 : World} {b mh ml : Nat} {zs : List Oi} {i : Nat} {tv : Value} {U : List Pr} (u : Value) {z : Oi} (h : Gst w b mh ml zs i tv W0) (hi : i < 12) (hz : zs[i]? = some z) (hU : U = tellOf z) (hl : z.ds.length ≤ 10) (bl : Below W0.heap.size W0 w3) (hu : Sl w3 W0.heap.size 2 u U.length (prc U)) :
    Calls Tryz.prog 15 #[.pointer (some ⟨b, 0, none⟩), .int .i64 (num12 i), u] w3 fun e w4 => e = .returned (.tuple #[]) ∧
      Below w.heap.size w w4 ∧ (∀ k, W0.heap.size ≤ k → k < w3.heap.size → w4.heap[k]? = w3.heap[k]?) ∧
      (Calls Tryz.prog 16 #[.pointer (some ⟨b, 0, none⟩), .int .i64 (num12 i), u] w4 fun e w5 => e = .returned (.tuple #[]) ∧ (z.st = false → Gst w b mh ml zs (i + 1) tv w5)) ∧
      (z.st = true → ∀ v : Value, Sl w3 W0.heap.size 2 v U.length (prc U) → ∃ qs : List Sx, Sl w4 w.heap.size 2 tv qs.length (sxc qs) ∧ w.heap.size ≤ w4.heap.size ∧ qs.length ≤ i ∧ ∀ ob w5 tv', Ext w.heap.size 2 (w4.alloc ob) tv qs.length (sxc qs) w5 tv' (qs.length + 1) (sxc qs ++ [.int .i64 (num12 i), v]) → Gst w b mh ml zs (i + 1) tv' w5) := by
  obtain ⟨va, A, H, ch, L, cl, o, qs, I, G, D, hq, B⟩ := h
  have hUl : U.length ≤ 10 := by rw [hU]; exact tellOf_len z hl
  have hnew := growN_new zs hi
  have hTl := growN_len zs i
  obtain ⟨hnA, hnH⟩ := G.out hnew
  have s0 : Stp (fun _ => False) o o W0 w3 := Stp.below bl
  have I3 := I.other s0 (fun _ => id)
  have D3 := D.step s0
  have hB3 := B.trans (bl.mono B.size)
  have zW := bl.size
  have hso : ∀ v : Value, Sl w3 W0.heap.size 2 v U.length (prc U) → ∀ k, v.ownBlock = some k → o k = none := fun v hv k hk => by
    cases e : o k with
    | none => rfl
    | some t => have := (hv.lt k hk).1; have := (I.lt k t e).2; omega
  have hL10 : ∀ m, (getL L m).length ≤ 90000 := fun m => by have := G.labl m; omega
  refine (add_new w.heap.size b mh ml ch cl va A H L o (num12 i) U u w3 I3 (Rd.of_sl hu) (hso u hu) G.up (by have := G.len; omega) (by rw [hU]; exact uniqN_nodup _) (by omega) (fun x y => ⟨G.get x y, by have := G.glen x y; omega⟩) hL10 hnH).mono ?_
  rintro e w4 ⟨rfl, va', H', ch', L', cl', o', I4, s4, Ad⟩
  have D4 := D3.step s4
  have hB4 := hB3.trans (s4.under I3.lt hB3.size)
  obtain ⟨hd1, hd2⟩ := G.drops hnew Ad
  have hsz : growN zs (i + 1) = growN zs i ++ (if z.st then [⟨num12 i, tellOf z⟩] else []) := by show growN zs i ++ _ = _; rw [hz]
  refine ⟨rfl, hB4, fun k h1 h2 => s4.block' (by cases e : o k with | none => rfl | some t => have := (I.lt k t e).2; omega) h2, ?_, fun hst v hv => ?_⟩
  · refine (drop_any w.heap.size b mh ml ch' cl' va' (putZ A (num12 i)) H' L' o' (num12 i) u w4 I4 (putZ_up _ _ G.up) (by have := putZ_len A (num12 i); have := G.len; omega) (by rw [hd1, hU]; exact uniqN_nodup _) (by rw [hd1]; omega) (fun x y => ?_) hd2).mono ?_
    · rw [Ad.get]
      have h1 := G.get x y
      have h2 := G.glen x y
      split
      · exact ⟨putZ_up _ _ h1, by have := putZ_len (getH H x y) (num12 i); omega⟩
      · exact ⟨h1, by omega⟩
    · rintro e w5 ⟨rfl, va2, H2, ch2, L2, cl2, o2, I5, s5, Dr, hL⟩
      refine ⟨rfl, fun hst => ⟨va2, _, H2, ch2, L2, cl2, o2, qs, I5, ?_, D4.step s5, ?_, hB4.trans (s5.under I4.lt hB4.size)⟩⟩
      · rw [hsz, hst]
        simp only [Bool.false_eq_true, if_false, List.append_nil]
        exact G.gone hnew Ad Dr hL
      · rw [hsz, hst, hq]; simp
  · refine ⟨qs, D4.sl, hB4.size, by have := congrArg List.length hq; rw [List.length_map] at this; omega, fun ob w5 tv' e => ?_⟩
    have hv4 : Sl w4 w.heap.size 2 v U.length (prc U) := (hv.mono B.size).same s4.turn.size fun k hk => s4.block' (hso v hv k hk) (hv.lt k hk).2
    obtain ⟨D5, t5⟩ := D4.push (q := ⟨num12 i, v, U⟩) I4.lt hB4.size hv4 (fun k hk => ⟨s4.none (hso v hv k hk) (hv.lt k hk).2, fun h1 => by have h2 := (D.sl.lt k h1).2; have h3 := (hv.lt k hk).1; omega⟩) e
    refine ⟨va', _, H', ch', L', cl', o', qs ++ [⟨num12 i, v, U⟩], I4.same t5.size (fun k t hk => t5.block k (I4.lt k t hk).2 fun h1 => by have := D4.free k h1; rw [hk] at this; cases this), ?_, D5, ?_, hB4.trans (t5.below hB4.size fun k hk => (D4.sl.lt k hk).1)⟩
    · rw [hsz, hst, if_pos rfl, ← hU]
      exact G.kept hnew hUl Ad
    · rw [List.map_append, hq, hsz, hst, if_pos rfl, ← hU]; rfl
end Go.Proofs.YtefhnjepocbodaaGreatDoor

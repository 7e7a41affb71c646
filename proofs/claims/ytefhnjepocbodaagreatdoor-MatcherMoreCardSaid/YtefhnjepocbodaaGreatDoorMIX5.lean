/- Layer 12: dropPair of a label that a series has. Layer 12: Drop of a series, whatever else is in the index. -/
import Derived.Test.YtefhnjepocbodaaGreatDoorMIX4
import Derived.Deep.RegionHeld3
import Derived.Deep.CutRange
import Derived.Deep.DeepCutAuto
namespace Go.Proofs.YtefhnjepocbodaaGreatDoor
open Go.RowKit Go.Lib

set_option maxHeartbeats 4000000 in
set_option maxRecDepth 100000 in
theorem dropp_any (base b mh ml ch cl : Nat) (va : Value) (A : List Int) (H : List HEn) (L : List LEn) (o : Own) (n : Int) (p : Pr) (k : HEn) (w : World) (h : IxW base b mh ml va A H ch L cl o w)
    (hk : lookK HEn.x p.n H = some k) (hu : ∀ x y, Up (getH H x y) ∧ (getH H x y).length ≤ 99999) :
    Calls Tryz.prog 32 #[.pointer (some ⟨b, 0, none⟩), .int .i64 n, .agg #[.string (bs p.n), .string (bs p.v)]] w fun e w' => e = .returned (.tuple #[]) ∧ ∃ H' ch' o', IxW base b mh ml va A H' ch' L cl o' w' ∧ Stp (fun t => t = .having ∨ (∃ x, t = .inner x) ∨ ∃ x y, t = .list x y) o o' w w' ∧ PairOut n p H H' := by
  have hbw := h.lt_b
  have hkx : k.x = p.n := (lookK_mem HEn.x hk).2
  have hk' := hk
  rw [← hkx] at hk'
  have ho0 : o w.heap.size = none := by
    rcases e : o w.heap.size with _ | t
    · rfl
    · have := (h.lt _ t e).2; omega
  obtain ⟨W0, hW0⟩ : ∃ W0, W0 = (w.alloc (.cells #[.string (bs p.n), .string (bs p.v)] 53)).drew := ⟨_, rfl⟩
  have s0 : Stp (fun _ => False) o o w W0 := by rw [hW0]; exact ((Stp.refl _ _ _).alloc _).drew
  have I0 := h.other s0 (fun _ => id)
  have p0 : W0.heap[w.heap.size]? = some (.cells #[.string (bs p.n), .string (bs p.v)] 53) := by rw [hW0]; exact heap_alloc_new w _
  have c1 : w.cell? ⟨b, 1, none⟩ = some (.map (some mh)) := Lib.cell_of_heap h.box 1
  have hl1 := lkH mh ch p.n I0.mapH
  rw [hk] at hl1
  rw [hW0] at hl1
  have hl1 : (Instr.lookup 74 (.map (some mh)) (.string (bs p.n)) false).run Tryz.prog (w.alloc (.cells #[.string (bs p.n), .string (bs p.v)] 53)).drew = .ok (.map (some k.mi)) (w.alloc (.cells #[.string (bs p.n), .string (bs p.v)] 53)).drew := hl1
  have HW := Lib.hid hW0
  have II := Lib.hid I0
  have SS := Lib.hid s0
  have PP := Lib.hid p0
  have HK := Lib.hid hk
  have HK' := Lib.hid hk'
  have HKX := Lib.hid hkx
  clear h hk hk' hkx s0 I0 p0 hW0
  go_enter Tryz.func32, Tryz.ntmps32
  go_wp2_with fail
  go_region
  rw [← HW.out]
  have h0 := II.out
  have K0 := h0.inner k (lookK_mem HEn.x HK.out).1
  obtain ⟨v0, hv0, sl0⟩ := K0.val p.v
  have hG : getH H p.n p.v = getV k.vs p.v := by unfold getH; rw [HK.out]; rfl
  obtain ⟨hup, hlen⟩ := hu p.n p.v
  rw [hG] at hup hlen
  have C := Lib.hid (fun W (e : W = W0.drew) => show Calls Tryz.prog 31 #[v0, .int .i64 n] W (LW W0.drew base v0 (outZ (getV k.vs p.v) n)) from by rw [e]; exact without_any base v0 _ n W0.drew sl0.1 hup (by omega))
  have hl2 := lkI k.mi k.ci p.v k.vs (w := W0.drew) K0.2.1
  rw [hv0] at hl2
  obtain ⟨a0, c0, e0⟩ := sl0.1.slice
  have q0 : W0.drew.cell? ⟨w.heap.size, 1, none⟩ = some (.string (bs p.v)) := Lib.cell_of_heap PP.out 1
  have pl : w.heap.size < W0.heap.size := (Array.getElem?_eq_some_iff.1 PP.out).1
  obtain ⟨c', hc'⟩ : ∃ c', c' = (if (lookK VEn.y p.v k.vs).isSome then k.ci else k.ci + 1) := ⟨_, rfl⟩
  have FIN := Lib.hid (fun e w2 (hLW : LW W0.drew base v0 (outZ (getV k.vs p.v) n) e w2) => show ∃ v' o2, e = .returned v' ∧ w2.cell? ⟨w.heap.size, 1, none⟩ = some (.string (bs p.v)) ∧
      (Instr.mapUpdate 103 (.map (some k.mi)) (.string (bs p.v)) v').run Tryz.prog w2 = .ok () (World.putMap w2 k.mi ((putV p.v v' (outZ (getV k.vs p.v) n) k.ci k.vs).map VEn.en) c') ∧
      Hid (IxW base b mh ml va A (putK HEn.x k.x (fun a => { a with vs := putV p.v v' (outZ (getV k.vs p.v) n) k.ci k.vs, ci := c' }) k H) ch L cl o2 (World.putMap w2 k.mi ((putV p.v v' (outZ (getV k.vs p.v) n) k.ci k.vs).map VEn.en) c') ∧
        Stp (fun t => t = .having ∨ (∃ x, t = .inner x) ∨ ∃ x y, t = .list x y) o o2 w (World.putMap w2 k.mi ((putV p.v v' (outZ (getV k.vs p.v) n) k.ci k.vs).map VEn.en) c') ∧ (World.putMap w2 k.mi ((putV p.v v' (outZ (getV k.vs p.v) n) k.ci k.vs).map VEn.en) c').heap[w.heap.size]? = some (.cells #[.string (bs p.n), .string (bs p.v)] 53) ∧ o2 w.heap.size = none) from by
    have h1 := II.out.other (Stp.refl (fun _ => False) o W0).drew (fun _ => id)
    obtain ⟨v', o2, rfl, s2, sl2⟩ := hLW.own sl0 h1.lt
    have m2 : MapIs k.mi (k.vs.map VEn.en) k.ci w2 := MapIs.step (w := W0.drew) K0.2.1 s2 K0.1 nofun
    have hst := stI k.mi k.ci p.v k.vs v' (outZ (getV k.vs p.v) n) m2
    rw [← hc'] at hst
    obtain ⟨s3, I3⟩ := h1.setList HK'.out s2 sl2 c' k hc'
    refine ⟨v', o2, rfl, Lib.cell_of_heap ((s2.block' ho0 pl).trans PP.out) 1, hst, Lib.hid ⟨I3, ?_, (s3.block' ho0 pl).trans PP.out, s2.none ho0 pl⟩⟩
    exact (SS.out.drew.mono (fun _ h => h.elim)).trans (s3.mono (by rintro t (rfl | ⟨y, rfl⟩); exact .inr (.inl ⟨_, rfl⟩); exact .inr (.inr ⟨_, _, rfl⟩))))
  subst e0
  clear h0 K0 sl0 hv0 hup hlen hG hl1 c1 hc' hu
  go_wp2_with fail
  go_region_held3 (fun W => W.cell? ⟨w.heap.size, 1, none⟩ = some (.string (bs p.v)))
    (first | exact q0 | exact q2 | exact q3 | assumption | fail)
    (first
      | (go_at_call 31; ((with_reducible refine (C.out _ rfl).mono ?_)); rintro e w2 hLW; obtain ⟨v2, o2, rfl, q2, hst, E2⟩ := FIN.out _ _ hLW; clear hLW; have q3 := Lib.cell_of_heap E2.out.2.2.1 1)
      | fail)
  obtain ⟨W3, hW3⟩ : ∃ W3, W3 = World.putMap w2 k.mi ((putV p.v v2 (outZ (getV k.vs p.v) n) k.ci k.vs).map VEn.en) c' := ⟨_, rfl⟩
  have X : ∃ H1 k1, k1.mi = k.mi ∧ Mid n p H H1 k1 ∧ IxW base b mh ml va A H1 ch L cl o2 W3 ∧ Stp (fun t => t = .having ∨ (∃ x, t = .inner x) ∨ ∃ x y, t = .list x y) o o2 w W3 ∧ W3.heap[w.heap.size]? = some (.cells #[.string (bs p.n), .string (bs p.v)] 53) ∧ o2 w.heap.size = none := by
    rw [hW3]
    exact ⟨_, { k with vs := putV p.v v2 (outZ (getV k.vs p.v) n) k.ci k.vs, ci := c' }, rfl, Mid.first HK.out II.out.keysH (II.out.inner k (lookK_mem HEn.x HK.out).1).2.2.2.1 v2 k.ci c', E2.out.1, E2.out.2.1, E2.out.2.2.1, E2.out.2.2.2⟩
  rw [← hW3]
  clear hst q2 q3 E2 hW3 FIN C hl2 q0 HK' HKX II SS PP HW
  obtain ⟨H1, k1, hmi, M1, I1, S1, P1, ho2⟩ := X
  rw [← hmi]
  have K1 := I1.inner k1 (lookK_mem HEn.x M1.look).1
  obtain ⟨v1, hv1, sl1⟩ := K1.val p.v
  have hl1 := lkI k1.mi k1.ci p.v k1.vs K1.2.1
  rw [hv1] at hl1
  obtain ⟨a1, c1, e1⟩ := sl1.1.slice
  obtain ⟨N1, hN1⟩ : ∃ N1, N1 = (getV k1.vs p.v).length := ⟨_, rfl⟩
  rw [← hN1] at e1
  subst e1
  have q1 : W3.cell? ⟨w.heap.size, 1, none⟩ = some (.string (bs p.v)) := Lib.cell_of_heap P1 1
  have HM := Lib.hid M1
  have HI := Lib.hid I1
  have HS := Lib.hid S1
  have HP := Lib.hid P1
  have HK1 := Lib.hid K1
  have HN1 := Lib.hid hN1
  clear M1 I1 S1 P1 K1 hN1 hv1 sl1 hmi
  go_upto_if 28 with fail
  go_cut [6] from 7 to 40 (fun q wc => ∃ H2 k2, q = .map (some k2.mi) ∧ Mid n p H H2 k2 ∧ IxW base b mh ml va A H2 ch L cl o2 wc ∧ Stp (fun t => t = .having ∨ (∃ x, t = .inner x) ∨ ∃ x y, t = .list x y) o o2 w wc ∧ wc.heap[w.heap.size]? = some (.cells #[.string (bs p.n), .string (bs p.v)] 53) ∧ (Full H → ∀ e ∈ k2.vs, e.l ≠ []))
  case first =>
    by_cases hz : N1 = 0
    · have hlk := HM.out.look
      have hkx := (lookK_mem HEn.x hlk).2
      rw [← hkx] at hlk
      obtain ⟨s4, I4⟩ := HI.out.delList p.v hlk k1
      have hd := fun ty => dpI k1.mi k1.ci p.v k1.vs (w := W3) HK1.out.2.1 ty
      obtain ⟨W4, hW4⟩ : ∃ W4, W4 = World.putMap W3 k1.mi ((delK VEn.y p.v k1.vs).map VEn.en) k1.ci := ⟨_, rfl⟩
      rw [← hW4] at hd s4 I4
      have FF := Lib.hid (show ∃ H2 k2, Value.map (some k1.mi) = .map (some k2.mi) ∧ Mid n p H H2 k2 ∧ IxW base b mh ml va A H2 ch L cl o2 W4 ∧ Stp (fun t => t = .having ∨ (∃ x, t = .inner x) ∨ ∃ x y, t = .list x y) o o2 w W4 ∧ W4.heap[w.heap.size]? = some (.cells #[.string (bs p.n), .string (bs p.v)] 53) ∧ (Full H → ∀ e ∈ k2.vs, e.l ≠ []) from
        ⟨_, { k1 with vs := delK VEn.y p.v k1.vs, ci := k1.ci }, rfl, HM.out.del HI.out.keysH HK1.out.2.2.2.1 (List.length_eq_zero_iff.1 (by rw [← HN1.out]; exact hz)), I4, HS.out.trans (s4.mono (by rintro t (rfl | ⟨y, rfl⟩); exact .inr (.inl ⟨_, rfl⟩); exact .inr (.inr ⟨_, _, rfl⟩))), (s4.block' ho2 (Array.getElem?_eq_some_iff.1 HP.out).1).trans HP.out, fun F => HM.out.then HK1.out.2.2.2.1 F⟩)
      clear s4 I4 hW4 hlk hkx
      subst hz
      go_wp2_with fail
      go_meet
      exact FF.out
    · have hz2 : ¬ (N1 : Int) = 0 := by omega
      go_wp2_with fail
      go_meet
      exact ⟨H1, k1, rfl, HM.out, HI.out, HS.out, HP.out, fun F => HM.out.now HK1.out.2.2.2.1 (fun e => hz (by rw [HN1.out, e]; rfl)) F⟩
  case rest =>
  obtain ⟨H2, k2, rfl, M2, I2, S2, P2, F2⟩ := hcut
  have K2 := I2.inner k2 (lookK_mem HEn.x M2.look).1
  have hln := fun ty => lnI k2.mi k2.ci k2.vs K2.2.1 ty
  obtain ⟨N2, hN2⟩ : ∃ N2, N2 = k2.vs.length := ⟨_, rfl⟩
  rw [← hN2] at hln
  have HN2 := Lib.hid hN2
  clear hN2 HM HI HS HP HK1 HN1 hl1 q1
  by_cases hz : N2 = 0
  · have d1 : wc.cell? ⟨b, 1, none⟩ = some (.map (some mh)) := Lib.cell_of_heap I2.box 1
    have q0 : wc.cell? ⟨w.heap.size, 0, none⟩ = some (.string (bs p.n)) := Lib.cell_of_heap P2 0
    have I2d := I2.other (Stp.refl (fun _ => False) o2 wc).drew (fun _ => id)
    have hd := fun ty => dpH mh ch p.n I2d.mapH ty
    obtain ⟨s5, I5⟩ := I2d.delInner p.n
    obtain ⟨W5, hW5⟩ : ∃ W5, W5 = World.putMap wc.drew mh ((delK HEn.x p.n H2).map HEn.en) ch := ⟨_, rfl⟩
    rw [← hW5] at hd s5 I5
    have FF := Lib.hid (show ∃ H' ch' o', IxW base b mh ml va A H' ch' L cl o' W5 ∧ Stp (fun t => t = .having ∨ (∃ x, t = .inner x) ∨ ∃ x y, t = .list x y) o o' w W5 ∧ PairOut n p H H' from
      ⟨_, ch, o2, I5, S2.drew.trans (s5.mono fun _ h => .inl h), M2.gone I2.keysH (List.length_eq_zero_iff.1 (by rw [← HN2.out]; exact hz))⟩)
    clear s5 I5 hW5 I2d I2 S2 M2 F2 K2 P2
    subst hz
    go_wp2_with fail
    go_region
    go_wp2_with fail
    go_end0
    exact ⟨rfl, FF.out⟩
  · have hz2 : ¬ (N2 : Int) = 0 := by omega
    have FF := Lib.hid (show ∃ H' ch' o', IxW base b mh ml va A H' ch' L cl o' wc ∧ Stp (fun t => t = .having ∨ (∃ x, t = .inner x) ∨ ∃ x y, t = .list x y) o o' w wc ∧ PairOut n p H H' from
      ⟨H2, ch, o2, I2, S2, M2.stays I2.keysH (fun e => hz (by rw [HN2.out, e]; rfl)) F2⟩)
    clear I2 S2 M2 F2 K2 P2
    go_wp2_with fail
    go_end0
    exact ⟨rfl, FF.out⟩
end Go.Proofs.YtefhnjepocbodaaGreatDoor

namespace Go.Proofs.YtefhnjepocbodaaGreatDoor
open Go.RowKit Go.Lib

/-- What a series' first labels leave of entries when they go. -/
structure DropIn (n : Int) (ps : List Pr) (H H' : List HEn) : Prop where
  get : ∀ x y, getH H' x y = if (⟨x, y⟩ : Pr) ∈ ps then outZ (getH H x y) n else getH H x y
  full : Full H → Full H'
theorem DropIn.zero (n : Int) (H : List HEn) : DropIn n [] H H := ⟨fun x y => by simp, id⟩
theorem DropIn.step {n : Int} {ps : List Pr} {p : Pr} {H H1 H2 : List HEn} (a : DropIn n ps H H1) (s : PairOut n p H1 H2) (hp : p ∉ ps) : DropIn n (ps ++ [p]) H H2 := by
  have hg : getH H1 p.n p.v = getH H p.n p.v := by rw [a.get, if_neg hp]
  refine ⟨fun x y => ?_, fun F => s.full (a.full F)⟩
  rw [s.get]
  by_cases e : x = p.n ∧ y = p.v
  · obtain ⟨rfl, rfl⟩ := e
    rw [if_pos ⟨rfl, rfl⟩, if_pos (by simp), hg]
  · have hne : (⟨x, y⟩ : Pr) ≠ p := fun h => e (by rw [← h]; exact ⟨rfl, rfl⟩)
    rw [if_neg e, a.get]
    by_cases h2 : (⟨x, y⟩ : Pr) ∈ ps
    · rw [if_pos h2, if_pos (by simp [h2])]
    · rw [if_neg h2, if_neg (by simp [h2, hne])]
theorem getL_del {L : List LEn} (hn : (L.map LEn.n).Nodup) (n m : Int) : getL (delK LEn.n n L) m = if m = n then [] else getL L m := by
  unfold getL
  rw [lookK_del LEn.n hn]
  by_cases e : m = n
  · rw [if_pos e, if_pos e]; rfl
  · rw [if_neg e, if_neg e]
theorem look_of_get {H : List HEn} {x y : List UInt8} {n : Int} (h : n ∈ getH H x y) : ∃ k, lookK HEn.x x H = some k := by
  unfold getH at h
  rcases e : lookK HEn.x x H with _ | k
  · rw [e] at h; cases h
  · exact ⟨k, rfl⟩
theorem take_out {ps : List Pr} {i : Nat} {p : Pr} (h : ps.Nodup) (hp : ps[i]? = some p) : p ∉ ps.take i := fun hm => by
  obtain ⟨j, hj⟩ := List.getElem?_of_mem hm
  rw [List.getElem?_take] at hj
  split at hj
  · rename_i hji
    have := (List.getElem?_inj (i := j) (j := i) (by have := (List.getElem?_eq_some_iff.1 hj).1; omega) h).1 (hj.trans hp.symm)
    omega
  · cases hj

set_option maxHeartbeats 2000000 in
set_option maxRecDepth 100000 in
theorem drop_any (base b mh ml ch cl : Nat) (va : Value) (A : List Int) (H : List HEn) (L : List LEn) (o : Own) (n : Int) (sv : Value) (w : World) (h : IxW base b mh ml va A H ch L cl o w)
    (hA : Up A) (hAl : A.length ≤ 99999) (hps : (getL L n).Nodup) (hpl : (getL L n).length ≤ 1000) (hu : ∀ x y, Up (getH H x y) ∧ (getH H x y).length ≤ 90000) (hm : ∀ p ∈ getL L n, n ∈ getH H p.n p.v) :
    Calls Tryz.prog 16 #[.pointer (some ⟨b, 0, none⟩), .int .i64 n, sv] w fun e w' => e = .returned (.tuple #[]) ∧ ∃ va' H' ch' L' cl' o', IxW base b mh ml va' (outZ A n) H' ch' L' cl' o' w' ∧ Stp (fun _ => True) o o' w w' ∧ DropIn n (getL L n) H H' ∧ ∀ m, getL L' m = if m = n then [] else getL L m := by
  have hbw := h.lt_b
  have c0 : w.cell? ⟨b, 0, none⟩ = some va := Lib.cell_of_heap h.box 0
  have C := Lib.hid (without_any base va A n w h.all.1 hA (by omega))
  obtain ⟨a0, k0, rfl⟩ := h.all.1.slice
  obtain ⟨ps, hpe⟩ : ∃ ps, ps = getL L n := ⟨_, rfl⟩
  rw [← hpe] at hps hpl hm
  obtain ⟨N, hN⟩ : ∃ N, N = ps.length := ⟨_, rfl⟩
  obtain ⟨NA, hNA⟩ : ∃ NA, NA = A.length := ⟨_, rfl⟩
  have HI := Lib.hid h
  have HNh := Lib.hid hN
  have HPE := Lib.hid hpe
  have hNb : N ≤ 1000 := by omega
  rw [← hNA] at C c0
  rw [← hpe]
  have HNA := Lib.hid hNA
  clear h hN hNA hA hpe
  go_enter Tryz.func16, Tryz.ntmps16
  go_wp2_with fail
  refine C.out.mono ?_
  rintro e w1 hLW
  have h := HI.out
  obtain ⟨v1, o1, rfl, s1, sl1⟩ := hLW.own (by rw [HNA.out]; exact h.all) h.lt
  obtain ⟨a1, k1, e1⟩ := sl1.1.slice
  obtain ⟨N1, hN1⟩ : ∃ N1, N1 = (outZ A n).length := ⟨_, rfl⟩
  rw [← hN1] at e1
  subst e1
  have ib1 := (s1.block h.ob nofun hbw).trans h.box
  have c01 : w1.cell? ⟨b, 0, none⟩ = some (.slice a0 NA k0) := by rw [Lib.cell_of_heap ib1 0, HNA.out]; rfl
  have f01 : w1.frozen? ⟨b, 0, none⟩ = false := Lib.frozen_of_heap ib1 0
  obtain ⟨W2, hW2⟩ : ∃ W2, W2 = w1.setCell ⟨b, 0, none⟩ (.slice a1 N1 k1) := ⟨_, rfl⟩
  have s2 : Stp (fun u => u = Tag.box) o1 o1 w1 W2 := by rw [hW2]; exact Stp.one (s1.keep _ _ h.ob) ((Turn.refl _ w1).setCell ⟨b, 0, none⟩ _ rfl)
  have bx : W2.heap[b]? = some (.cells #[.slice a1 N1 k1, .map (some mh), .map (some ml)] 77) := by
    have := heap_setCell_same w1 b 0 _ _ (.slice a1 N1 k1) ib1
    rw [hW2, this]; rfl
  have s12 := (s1.mono (T' := fun t => t = .all ∨ t = .box) (fun _ => .inl)).trans (s2.mono fun _ => .inr)
  have I2 := h.setAll s12 (fun _ => id) bx (sl1.step s2 nofun)
  obtain ⟨v5, hv5, sl5⟩ := I2.labv n
  rw [← HPE.out] at sl5
  have hl5 := lkL ml cl n I2.mapL
  rw [hv5] at hl5
  obtain ⟨a5, c5, e5⟩ := sl5.1.slice
  rw [← HNh.out] at e5
  subst e5
  have d2 : W2.cell? ⟨b, 2, none⟩ = some (.map (some ml)) := Lib.cell_of_heap bx 2
  have II := Lib.hid I2
  have SL := Lib.hid sl5
  have S2 := Lib.hid (s12.mono (T' := fun t => ∀ m, t ≠ .lab m) (by rintro t (rfl | rfl) m <;> nofun))
  rw [hW2] at hl5 d2
  clear hLW s1 s2 s12 sl1 bx ib1 I2 h C hN1 sl5 hv5
  go_wp2_with fail
  go_loopw [24] (fun i' wr => ∃ i : Nat, i' = .int .i64 i ∧ i ≤ N ∧ Hid (∃ H' ch' o', IxW base b mh ml (.slice a1 N1 k1) (outZ A n) H' ch' L cl o' wr ∧ Stp (fun t => ∀ m, t ≠ .lab m) o1 o' W2 wr ∧ DropIn n (ps.take i) H H')) (fun i' _ => N - (RowKit.intOf i').toNat)
  case atStart =>
    refine ⟨0, rfl, Nat.zero_le _, Lib.hid ?_⟩
    rw [← hW2]
    exact ⟨H, ch, o1, II.out, Stp.refl _ _ _, by rw [List.take_zero]; exact DropIn.zero n H⟩
  case round =>
    obtain ⟨i, rfl, hi, hst⟩ := hrel
    obtain ⟨H1, ch1, o2, I, S, Ad⟩ := hst.out
    clear hst hW2 hl5 d2
    by_cases hlt : i < N
    · obtain ⟨p, hp⟩ : ∃ p, ps[i]? = some p := ⟨_, List.getElem?_eq_getElem (by have := HNh.out; omega)⟩
      have slr := (SL.out.step S (fun e => e n rfl)).1
      obtain ⟨pa, pb⟩ := prc_at ps i p hp
      rcases slr.2 with ⟨h0, _⟩ | ⟨sg, so, cap, he, hbg, hsw, hnc, hcm, hfree, hcell⟩
      · have := HNh.out; omega
      injection he with ha hb hc
      subst ha
      have u0 : wr.cell? ⟨sg, so + i * 2, none⟩ = some (.string (bs p.n)) := (hcell (i * 2) (by have := HNh.out; omega)).trans pa
      have u1 : wr.cell? ⟨sg, so + i * 2 + 1, none⟩ = some (.string (bs p.v)) := (hcell (i * 2 + 1) (by have := HNh.out; omega)).trans pb
      have hnp := take_out hps hp
      have hin : n ∈ getH H1 p.n p.v := by rw [Ad.get, if_neg hnp]; exact hm p (List.mem_of_getElem? hp)
      obtain ⟨kk, hkk⟩ := look_of_get hin
      obtain ⟨P, hP⟩ : ∃ P : Obj, P = .cells #[.string (bs p.n), .string (bs p.v)] 53 := ⟨_, rfl⟩
      have hu1 : ∀ x y, Up (getH H1 x y) ∧ (getH H1 x y).length ≤ 99999 := fun x y => by
        have h1 := hu x y
        rw [Ad.get]
        split
        · exact ⟨outZ_up _ h1.1, by have := outZ_len (getH H x y) n; omega⟩
        · exact ⟨h1.1, by omega⟩
      have AP := Lib.hid (dropp_any base b mh ml ch1 cl (.slice a1 N1 k1) (outZ A n) H1 L o2 n p kk (wr.alloc P) (I.other ((Stp.refl (fun _ => False) o2 wr).alloc P) (fun _ => id)) hkk hu1)
      have htk : ps.take (i + 1) = ps.take i ++ [p] := by rw [List.take_add_one, hp]; rfl
      have HT := Lib.hid htk
      have HNP := Lib.hid hnp
      have SA := Lib.hid (S.alloc P)
      have AD := Lib.hid Ad
      rw [hP] at AP SA
      have hlt' : (i : Int) < N := by omega
      clear hP P hu1 hnp htk I S Ad pa pb hp slr hb hc hcell hfree hcm hnc hin hkk
      go_wp2_with fail
      refine AP.out.mono ?_
      rintro e w3 ⟨rfl, H2, ch2, o3, I3, S3, PI⟩
      have FF := Lib.hid (show ∃ H' ch' o', IxW base b mh ml (.slice a1 N1 k1) (outZ A n) H' ch' L cl o' w3 ∧ Stp (fun t => ∀ m, t ≠ .lab m) o1 o' W2 w3 ∧ DropIn n (ps.take (i + 1)) H H' from ⟨H2, ch2, o3, I3, SA.out.trans (S3.mono (by rintro t (rfl | ⟨x, rfl⟩ | ⟨x, y, rfl⟩) m <;> nofun)), by rw [HT.out]; exact AD.out.step PI HNP.out⟩)
      clear I3 S3 PI
      go_wp2
      refine ⟨⟨i + 1, rfl, hlt, FF⟩, ?_⟩
      show N - ((i : Int) + 1).toNat < N - ((i : Nat) : Int).toNat
      omega
    · obtain rfl : i = N := by omega
      have d3 : wr.cell? ⟨b, 2, none⟩ = some (.map (some ml)) := Lib.cell_of_heap I.box 2
      have hd := fun ty => dpL ml cl n I.mapL ty
      obtain ⟨s6, I6⟩ := I.delLab n
      obtain ⟨W6, hW6⟩ : ∃ W6, W6 = World.putMapJ wr ml ((delK LEn.n n L).map LEn.en) cl := ⟨_, rfl⟩
      rw [← hW6] at hd s6 I6
      have FF := Lib.hid (show ∃ va' H' ch' L' cl' o', IxW base b mh ml va' (outZ A n) H' ch' L' cl' o' W6 ∧ Stp (fun _ => True) o o' w W6 ∧ DropIn n ps H H' ∧ ∀ m, getL L' m = if m = n then [] else getL L m from
        ⟨_, H1, ch1, _, cl, o2, I6, ((S2.out.mono (fun _ _ => trivial)).trans (S.mono fun _ _ => trivial)).trans (s6.mono fun _ _ => trivial), by have := Ad; rw [HNh.out, List.take_length] at this; exact this, getL_del I.keysL n⟩)
      have hlt' : ¬ (i : Int) < i := by omega
      clear I S Ad s6 I6 hW6
      go_wp2
      go_end0
      exact ⟨rfl, FF.out⟩
end Go.Proofs.YtefhnjepocbodaaGreatDoor

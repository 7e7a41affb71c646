/- Layer 12: addPair, whatever is in the index. -/
import Derived.Test.YtefhnjepocbodaaGreatDoorMK8
import Derived.Deep.CutRange
import Derived.Deep.DeepCutAuto
namespace Go.Proofs.YtefhnjepocbodaaGreatDoor
open Go.RowKit Go.Lib

/-- What addPair leaves of entries. -/
structure PairIn (n : Int) (p : Pr) (H : List HEn) (L : List LEn) (H' : List HEn) (L' : List LEn) : Prop where
  get : ∀ x y, getH H' x y = if x = p.n ∧ y = p.v then putZ (getH H x y) n else getH H x y
  lab : ∀ m, getL L' m = if m = n ∧ n ∉ getH H p.n p.v then getL L m ++ [p] else getL L m
  full : Full H → Full H'

theorem eql_val (H : List HEn) (x : List UInt8) : ∃ (r : Option Nat) (q : Bool), (((lookK HEn.x x H).map fun h => Value.map (some h.mi)).getD (.map none)) = .map r ∧ (∀ W, (binOp BinOp.eql 103 (.map r) (.map none)).run Tryz.prog W = .ok (.bool q) W) ∧ ((q = true ∧ lookK HEn.x x H = none ∧ r = none) ∨ (q = false ∧ ∃ k, lookK HEn.x x H = some k ∧ r = some k.mi)) := by
  rcases e : lookK HEn.x x H with _ | k
  · exact ⟨none, true, rfl, fun W => run_mapnil W, .inl ⟨rfl, rfl, rfl⟩⟩
  · exact ⟨some k.mi, false, rfl, fun W => run_mapsome _ W, .inr ⟨rfl, k, rfl, rfl⟩⟩

set_option maxHeartbeats 1000000 in
set_option maxRecDepth 100000 in
theorem with_in (base : Nat) (v : Value) (l : List Int) (x : Int) (w : World) (hs : Sl w base 1 v l.length (ic l)) (hu : Up l) (hn : l.length ≤ 100000) (hx : x ∈ l) :
    Calls Tryz.prog 29 #[v, .int .i64 x] w fun e w' => e = .returned v ∧ w = w' := by
  have C := Lib.hid (search_any v l x w (Nc.of_sl hs hn) hu)
  rw [show decide (x ∈ l) = true by simpa using hx] at C
  clear hs hu hx
  go_enter Tryz.func29, Tryz.ntmps29
  go_wp2_with fail
  refine C.out.mono ?_
  rintro e w1 ⟨rfl, rfl⟩
  go_wp2
  go_ret
  exact ⟨rfl, rfl⟩
theorem putZ_len_out {l : List Int} {n : Int} (hu : Up l) (h : n ∉ l) : (putZ l n).length = l.length + 1 := by
  rw [putZ_out hu h]
  have := pos_le l n
  simp
  omega

/-- What an inner map has of a value, and a series' labels. -/
theorem HOk.val {base : Nat} {o : Own} {w : World} {k : HEn} (h : HOk base o w k) (y : List UInt8) : ∃ v0, ((lookK VEn.y y k.vs).map VEn.v).getD (.slice none 0 0) = v0 ∧ SlO base o (.list k.x y) w 1 v0 (getV k.vs y).length (ic (getV k.vs y)) := by
  unfold getV
  rcases e : lookK VEn.y y k.vs with _ | e0
  · exact ⟨_, rfl, SlO.nil _ _ _ _ _⟩
  · have h1 := lookK_mem VEn.y e
    have h2 := h.2.2.1 e0 h1.1
    rw [h1.2] at h2
    exact ⟨_, rfl, h2⟩
theorem IxW.labv {base b mh ml : Nat} {va : Value} {A : List Int} {H : List HEn} {ch : Nat} {L : List LEn} {cl : Nat} {o : Own} {w : World} (h : IxW base b mh ml va A H ch L cl o w) (n : Int) :
    ∃ v0, ((lookK LEn.n n L).map LEn.v).getD (.slice none 0 0) = v0 ∧ SlO base o (.lab n) w 2 v0 (getL L n).length (prc (getL L n)) := by
  unfold getL
  rcases e : lookK LEn.n n L with _ | e0
  · exact ⟨_, rfl, SlO.nil _ _ _ _ _⟩
  · have h1 := lookK_mem LEn.n e
    have h2 := h.labs e0 h1.1
    unfold LOk at h2
    rw [h1.2] at h2
    exact ⟨_, rfl, h2⟩
/-- A number that is there already. -/
theorem PairIn.old {n : Int} {p : Pr} {H : List HEn} {L : List LEn} (h : n ∈ getH H p.n p.v) : PairIn n p H L H L := by
  refine ⟨fun x y => ?_, fun m => by rw [if_neg (fun e => e.2 h)], id⟩
  by_cases e : x = p.n ∧ y = p.v
  · rw [if_pos e, e.1, e.2, putZ_in h]
  · rw [if_neg e]

set_option maxHeartbeats 4000000 in
set_option maxRecDepth 100000 in
theorem addp_any (base b mh ml ch cl : Nat) (va : Value) (A : List Int) (H : List HEn) (L : List LEn) (o : Own) (n : Int) (p : Pr) (w : World) (h : IxW base b mh ml va A H ch L cl o w)
    (hu : ∀ x y, Up (getH H x y) ∧ (getH H x y).length ≤ 99999) (hg : ∀ m, (getL L m).length ≤ 99999) :
    Calls Tryz.prog 30 #[.pointer (some ⟨b, 0, none⟩), .int .i64 n, .agg #[.string (bs p.n), .string (bs p.v)]] w fun e w' => e = .returned (.tuple #[]) ∧ ∃ H' ch' L' cl' o', IxW base b mh ml va A H' ch' L' cl' o' w' ∧ Stp (fun t => t ≠ .box ∧ t ≠ .all) o o' w w' ∧ PairIn n p H L H' L' := by
  have hbw := h.lt_b
  have c1 : w.cell? ⟨b, 1, none⟩ = some (.map (some mh)) := Lib.cell_of_heap h.box 1
  have ho0 : o w.heap.size = none := by
    rcases e : o w.heap.size with _ | t
    · rfl
    · have := (h.lt _ t e).2; omega
  obtain ⟨P, hP⟩ : ∃ P : Obj, P = .cells #[.string (bs p.n), .string (bs p.v)] 53 := ⟨_, rfl⟩
  obtain ⟨W0, hW0⟩ : ∃ W0, W0 = (w.alloc P).drew := ⟨_, rfl⟩
  have s0 : Stp (fun _ => False) o o w W0 := by rw [hW0]; exact ((Stp.refl _ _ _).alloc P).drew
  have I0 := h.other s0 (fun _ => id)
  have p0 : W0.heap[w.heap.size]? = some P := by rw [hW0]; exact heap_alloc_new w P
  have hl1 := lkH mh ch p.n I0.mapH
  obtain ⟨r, q, hV, e1, hVV⟩ := eql_val H p.n
  rw [hV] at hl1
  rw [hW0, hP] at hl1
  have II := Lib.hid I0
  have SS := Lib.hid s0
  have PP := Lib.hid p0
  have HH := Lib.hid h
  have VV := Lib.hid hVV
  rw [hW0, hP] at II SS PP
  clear I0 s0 p0 h hVV hV hW0 W0 hP P
  go_enter Tryz.func30, Tryz.ntmps30
  go_wp2_with fail
  go_region
  clear hl1 c1
  go_upto_if 16 with fail
  go_cut [6] from 8 to 56 (fun q wc => ∃ H1 ch1 o1 k, q = .map (some k.mi) ∧ First p.n H H1 k ∧ IxW base b mh ml va A H1 ch1 L cl o1 wc ∧ Stp (fun t => t ≠ .box ∧ t ≠ .all) o o1 w wc ∧ o1 w.heap.size = none ∧ wc.heap[w.heap.size]? = some (.cells #[.string (bs p.n), .string (bs p.v)] 53))
  case first =>
    rcases VV.out with ⟨rfl, hk, rfl⟩ | ⟨rfl, k, hk, rfl⟩
    · have hmm := @run_makeMap Tryz.prog
      go_wp2_with fail
      obtain ⟨W1, hW1⟩ : ∃ W1, W1 = (w.alloc (.cells #[.string (bs p.n), .string (bs p.v)] 53)).drew := ⟨_, rfl⟩
      obtain ⟨W2, hW2⟩ : ∃ W2, W2 = ((w.alloc (.cells #[.string (bs p.n), .string (bs p.v)] 53)).alloc (.map #[] 0)).drew := ⟨_, rfl⟩
      have e12 : W2 = W1.alloc (.map #[] 0) := by rw [hW1, hW2]; rfl
      rw [← hW2]
      rw [← hW1] at II SS PP
      have sz : W1.heap.size = w.heap.size + 1 := by rw [hW1]; show (w.alloc _).heap.size = _; simp
      have b2 : Below W1.heap.size W1 W2.drew := by rw [e12]; exact ((Below.refl _ _).alloc (Nat.le_refl _) _).drew
      have m2 : MapIs (w.heap.size + 1) [] 0 W2.drew := by
        have := heap_alloc_new W1 (.map #[] 0)
        rw [sz] at this
        rw [e12]; exact this
      have hmp : MapIs mh (H.map HEn.en) ch W2.drew := (b2.block _ (mapIs_lt II.out.mapH)).trans II.out.mapH
      have hst := stH mh ch (w.heap.size + 1) p.n hmp hk
      obtain ⟨o', s', I'⟩ := II.out.newInner hk b2 m2 (by omega)
      obtain ⟨W3, hW3⟩ : ∃ W3, W3 = World.putMap W2.drew mh ((putK HEn.x p.n id ⟨p.n, w.heap.size + 1, ch, 0, []⟩ H).map HEn.en) (ch + 1) := ⟨_, rfl⟩
      rw [← hW3] at hst s' I'
      have b1 : W2.cell? ⟨b, 1, none⟩ = some (.map (some mh)) := (b2.cell (p := ⟨b, 1, none⟩) (by show b < W1.heap.size; omega)).trans (Lib.cell_of_heap II.out.box 1)
      have p0 : W2.cell? ⟨w.heap.size, 0, none⟩ = some (.string (bs p.n)) := (b2.cell (p := ⟨w.heap.size, 0, none⟩) (by show w.heap.size < W1.heap.size; omega)).trans (Lib.cell_of_heap PP.out 0)
      have SF := Lib.hid ((SS.out.mono (T' := fun t => t ≠ .box ∧ t ≠ .all) (fun _ h => h.elim)).trans (s'.mono (by rintro t (rfl | rfl) <;> exact ⟨nofun, nofun⟩)))
      have IF := Lib.hid I'
      have FF := Lib.hid (First.new (w.heap.size + 1) ch hk II.out.keysH)
      have ON := Lib.hid (s'.none ho0 (by omega))
      have PF := Lib.hid ((s'.block' ho0 (by omega)).trans PP.out)
      clear hW2 hW3 hmp m2 b2 s' I' hmm e12 hW1 II SS PP VV
      go_region
      go_wp2_with fail
      go_meet
      exact ⟨_, _, o', _, rfl, FF.out, IF.out, SF.out, ON.out, PF.out⟩
    · go_wp2_with fail
      go_meet
      exact ⟨H, ch, o, k, rfl, First.refl hk, II.out, SS.out.mono (fun _ h => h.elim), ho0, PP.out⟩
  case rest =>
  obtain ⟨H1, ch1, o1, k, rfl, F, I1, s1, ho1, p1⟩ := hcut
  clear VV II SS PP HH
  have hkx : k.x = p.n := (lookK_mem HEn.x F.look).2
  have hlk := F.look
  rw [← hkx] at hlk
  have K1 := I1.inner k (lookK_mem HEn.x F.look).1
  have hG : getH H p.n p.v = getV k.vs p.v := by rw [← F.same]; unfold getH; rw [F.look]; rfl
  obtain ⟨v0, hv0, sl0⟩ := K1.val p.v
  obtain ⟨hup, hlen⟩ := hu p.n p.v
  rw [hG] at hup hlen
  have hl1 := lkI k.mi k.ci p.v k.vs K1.2.1
  rw [hv0] at hl1
  have hG2 := hG
  obtain ⟨l0, hl0⟩ : ∃ l0, l0 = getV k.vs p.v := ⟨_, rfl⟩
  rw [← hl0] at sl0 hup hlen hG
  obtain ⟨a0, c0, rfl⟩ := sl0.1.slice
  obtain ⟨N0, hN0⟩ : ∃ N0, N0 = l0.length := ⟨_, rfl⟩
  have bw : b < wc.heap.size := I1.lt_b
  have q1 : wc.cell? ⟨w.heap.size, 1, none⟩ = some (.string (bs p.v)) := Lib.cell_of_heap p1 1
  have hPl : w.heap.size < wc.heap.size := (Array.getElem?_eq_some_iff.1 p1).1
  by_cases hn : n ∈ l0
  · have C := Lib.hid (with_in base _ l0 n wc sl0.1 hup (by omega) hn)
    have H1H : H1 = H := F.was ⟨p.v, by rw [hG]; intro e; rw [e] at hn; cases hn⟩
    have FIN := Lib.hid (show ∃ H' ch' L' cl' o', IxW base b mh ml va A H' ch' L' cl' o' wc ∧ Stp (fun t => t ≠ .box ∧ t ≠ .all) o o' w wc ∧ PairIn n p H L H' L' from ⟨H1, ch1, L, cl, o1, I1, s1, by rw [H1H]; exact PairIn.old (by rw [hG]; exact hn)⟩)
    rw [← hN0] at C
    rw [← hN0] at hl1
    clear F I1 s1 ho1 p1 hlk K1 hG hG2 hv0 sl0 hup hu hg hl0 hN0 hn H1H hlen
    go_wp2_with fail
    refine C.out.mono ?_
    rintro e w2 ⟨rfl, rfl⟩
    go_wp2_with fail
    exact bodyPost_ret (results_none rfl _ _ _) rfl ⟨rfl, FIN.out⟩
  · have C := Lib.hid (with_any base _ l0 n wc sl0.1 hup (by omega) I1.big)
    obtain ⟨M, hM⟩ : ∃ M, M = N0 + 1 := ⟨_, rfl⟩
    have hN1 : (putZ l0 n).length = M := by rw [putZ_len_out hup hn, hM, hN0]
    rw [← hN0] at C hl1
    have HN := Lib.hid hn
    have HU := Lib.hid hup
    have HM := Lib.hid hM
    have HN1 := Lib.hid hN1
    have HN0 := Lib.hid hN0
    have HL0 := Lib.hid hl0
    have HK := Lib.hid hkx
    have HG := Lib.hid hG
    have HG2 := Lib.hid hG2
    have HV0 := Lib.hid hv0
    have S0 := Lib.hid sl0
    have LK := Lib.hid hlk
    have KK := Lib.hid K1
    have FF := Lib.hid F
    have I1h := Lib.hid I1
    have S1 := Lib.hid s1
    have P1 := Lib.hid p1
    clear hM hN1 hN0 hl0 hkx hG hG2 hv0 sl0 hlk K1 F I1 s1 p1 hn hup hlen
    go_wp2_with fail
    refine C.out.mono ?_
    rintro e w2 hLW
    have hM := HM.out; have hN1 := HN1.out; have hN0 := HN0.out; have hv0 := HV0.out; have sl0 := S0.out; have hlk := LK.out; have K1 := KK.out; have F := FF.out; have I1 := I1h.out; have s1 := S1.out; have p1 := P1.out
    obtain ⟨v1, o2, rfl, s2, sl2⟩ := hLW.own (by rw [hN0]; exact sl0) I1.lt
    obtain ⟨a1, c1, e1'⟩ := sl2.1.slice
    rw [hN1] at e1'
    subst e1'
    have m2 : MapIs k.mi (k.vs.map VEn.en) k.ci w2 := K1.2.1.step s2 K1.1 nofun
    have hl2 := lkI k.mi k.ci p.v k.vs m2
    rw [hv0, ← hN0] at hl2
    have P2 : w2.heap[w.heap.size]? = some (.cells #[.string (bs p.n), .string (bs p.v)] 53) := (s2.block' ho1 hPl).trans p1
    have q2 : w2.cell? ⟨w.heap.size, 1, none⟩ = some (.string (bs p.v)) := Lib.cell_of_heap P2 1
    have hst := stI k.mi k.ci p.v k.vs (.slice a1 M c1) (putZ l0 n) m2
    obtain ⟨s3, I3⟩ := I1.setList hlk s2 sl2 (if (lookK VEn.y p.v k.vs).isSome then k.ci else k.ci + 1) k rfl
    obtain ⟨W3, hW3⟩ : ∃ W3, W3 = World.putMap w2 k.mi ((putV p.v (.slice a1 M c1) (putZ l0 n) k.ci k.vs).map VEn.en) (if (lookK VEn.y p.v k.vs).isSome then k.ci else k.ci + 1) := ⟨_, rfl⟩
    rw [← hW3] at hst s3 I3
    obtain ⟨H2, hH2⟩ : ∃ H2, H2 = putK HEn.x k.x (fun a => { a with vs := putV p.v (.slice a1 M c1) (putZ l0 n) k.ci k.vs, ci := if (lookK VEn.y p.v k.vs).isSome then k.ci else k.ci + 1 }) k H1 := ⟨_, rfl⟩
    have G2 := F.set I1.keysH K1.2.2.2.1 (.slice a1 M c1) (putZ l0 n) (putZ_ne _ _) k.ci (if (lookK VEn.y p.v k.vs).isSome then k.ci else k.ci + 1) (y := p.v)
    rw [← hH2] at I3 G2
    have P3 : W3.heap[w.heap.size]? = some (.cells #[.string (bs p.n), .string (bs p.v)] 53) := (s3.block' ho1 hPl).trans p1
    have ne1 : ¬ ((M : Int) = (N0 : Int)) := by omega
    have GG := Lib.hid G2
    have II := Lib.hid I3
    have SS := Lib.hid (s1.trans (s3.mono (by rintro t (rfl | ⟨y, rfl⟩) <;> exact ⟨nofun, nofun⟩)))
    have PP := Lib.hid P3
    have OO := Lib.hid (s3.none ho1 hPl)
    have z3 := s3.turn.size
    clear G2 I3 s3 P3 hH2 hW3 m2 sl2 s2 hLW P2 hlk K1 hv0 sl0 hN0 F I1 s1 ho1 p1 C hl1 q1 hM hN1
    obtain ⟨v5, hv5, sl5⟩ := II.out.labv n
    obtain ⟨ps, hps⟩ : ∃ ps, ps = getL L n := ⟨_, rfl⟩
    rw [← hps] at sl5
    have hpl : ps.length ≤ 99999 := by rw [hps]; exact hg n
    have bw3 : b < W3.heap.size := II.out.lt_b
    have pw3 : w.heap.size < W3.heap.size := by omega
    have d0 : W3.cell? ⟨b, 2, none⟩ = some (.map (some ml)) := Lib.cell_of_heap II.out.box 2
    have BA : Below W3.heap.size W3 (W3.alloc (.cells #[.string (bs p.n), .string (bs p.v)] 53)).drew := ((Below.refl _ _).alloc (Nat.le_refl _) _).drew
    obtain ⟨WA, hWA⟩ : ∃ WA, WA = (W3.alloc (.cells #[.string (bs p.n), .string (bs p.v)] 53)).drew := ⟨_, rfl⟩
    rw [← hWA] at BA
    have IA := II.out.other (Stp.below (T := fun _ => False) (o := o2) BA) (fun _ => id)
    have slA := sl5.step (Stp.below (T := fun _ => False) (o := o2) BA) id
    have zA : base ≤ WA.heap.size := IA.big
    have dA : WA.cell? ⟨b, 2, none⟩ = some (.map (some ml)) := Lib.cell_of_heap IA.box 2
    have PA : WA.heap[w.heap.size]? = some (.cells #[.string (bs p.n), .string (bs p.v)] 53) := (BA.block _ pw3).trans PP.out
    have hlA := lkL ml cl n IA.mapL
    have hl3 := lkL ml cl n (w := W3.drew) II.out.mapL
    rw [hv5] at hlA hl3
    obtain ⟨i0, hi, hz0, hz1, hz2⟩ := info_parts zc_pair
    have Hz := Lib.hid hz0; have Hs := Lib.hid hz1; have Hb := Lib.hid hz2; have Hi := Lib.hid hi
    have SA := Lib.hid (show Sl WA W3.heap.size 2 (.slice (some ⟨W3.heap.size, 0, none⟩) 1 1) 1 (prc [p]) from by rw [hWA]; exact Sl.lit W3 W3.heap.size 2 1 #[.string (bs p.n), .string (bs p.v)] _ (Nat.le_refl _) (by decide) rfl)
    obtain ⟨cA, hcA⟩ : ∃ cA, cA = (if (lookK LEn.n n L).isSome then cl else cl + 1) := ⟨_, rfl⟩
    have FIN := Lib.hid (fun w6 v6 (x6 : Ext base 2 WA v5 ps.length (prc ps) w6 v6 (ps.length + 1) (prc ps ++ prc [p])) =>
      show (w6.cell? ⟨b, 2, none⟩ = some (.map (some ml)) ∧ w6.cell? ⟨w.heap.size, 0, none⟩ = some (.string (bs p.n)) ∧ w6.cell? ⟨w.heap.size, 1, none⟩ = some (.string (bs p.v))) ∧
        (Instr.mapUpdate 75 (.map (some ml)) (.int .i64 n) v6).run Tryz.prog w6 = .ok () (World.putMapJ w6 ml ((putL n v6 (ps ++ [p]) cl L).map LEn.en) cA) ∧
        ((World.putMapJ w6 ml ((putL n v6 (ps ++ [p]) cl L).map LEn.en) cA).cell? ⟨b, 2, none⟩ = some (.map (some ml)) ∧ (World.putMapJ w6 ml ((putL n v6 (ps ++ [p]) cl L).map LEn.en) cA).cell? ⟨w.heap.size, 0, none⟩ = some (.string (bs p.n)) ∧ (World.putMapJ w6 ml ((putL n v6 (ps ++ [p]) cl L).map LEn.en) cA).cell? ⟨w.heap.size, 1, none⟩ = some (.string (bs p.v))) ∧
        ∃ H' ch' L' cl' o', IxW base b mh ml va A H' ch' L' cl' o' (World.putMapJ w6 ml ((putL n v6 (ps ++ [p]) cl L).map LEn.en) cA) ∧ Stp (fun t => t ≠ .box ∧ t ≠ .all) o o' w (World.putMapJ w6 ml ((putL n v6 (ps ++ [p]) cl L).map LEn.en) cA) ∧ PairIn n p H L H' L' from by
      obtain ⟨o6, s6, sl6⟩ := x6.own slA IA.lt
      rw [← prc_append] at sl6
      have hlen6 : ps.length + 1 = (ps ++ [p]).length := by simp
      rw [hlen6] at sl6
      have m6 : MapIsJ ml (L.map LEn.en) cl w6 := IA.mapL.step s6 IA.ol nofun
      have hst6 := stL ml cl n v6 (ps ++ [p]) m6
      rw [← hcA] at hst6
      obtain ⟨s7, I7⟩ := IA.setLab s6 sl6 cA
      have hox : o2 w.heap.size = none := OO.out
      have pAl : w.heap.size < WA.heap.size := Nat.lt_of_lt_of_le pw3 BA.size
      have P6 := (s6.block' hox pAl).trans PA
      have P7 := (s7.block' hox pAl).trans PA
      refine ⟨⟨Lib.cell_of_heap ((s6.block IA.ob nofun IA.lt_b).trans IA.box) 2, Lib.cell_of_heap P6 0, Lib.cell_of_heap P6 1⟩, hst6, ⟨Lib.cell_of_heap I7.box 2, Lib.cell_of_heap P7 0, Lib.cell_of_heap P7 1⟩, _, _, _, _, o6, I7, ?_, ?_⟩
      · exact (SS.out.trans (Stp.below BA)).trans (s7.mono (by rintro t (rfl | ⟨m, rfl⟩) <;> exact ⟨nofun, nofun⟩))
      · have hnn : n ∉ getH H p.n p.v := by rw [HG.out]; exact HN.out
        refine ⟨fun x y => ?_, fun m => ?_, GG.out.2⟩
        · rw [GG.out.1]
          by_cases e : x = p.n ∧ y = p.v
          · rw [if_pos e, if_pos e, e.1, e.2, HG.out]
          · rw [if_neg e, if_neg e]
        · rw [getL_put]
          by_cases e : m = n
          · rw [if_pos e, if_pos ⟨e, hnn⟩, e, ← hps]
          · rw [if_neg e, if_neg (fun h => e h.1)])
    have slA1 := slA.1
    have k3 : W3.drew.cell? ⟨b, 2, none⟩ = some (.map (some ml)) ∧ W3.drew.cell? ⟨w.heap.size, 0, none⟩ = some (.string (bs p.n)) ∧ W3.drew.cell? ⟨w.heap.size, 1, none⟩ = some (.string (bs p.v)) := ⟨d0, Lib.cell_of_heap PP.out 0, Lib.cell_of_heap PP.out 1⟩
    have kA : WA.cell? ⟨b, 2, none⟩ = some (.map (some ml)) ∧ WA.cell? ⟨w.heap.size, 0, none⟩ = some (.string (bs p.n)) ∧ WA.cell? ⟨w.heap.size, 1, none⟩ = some (.string (bs p.v)) := ⟨dA, Lib.cell_of_heap PA 0, Lib.cell_of_heap PA 1⟩
    have SLA := Lib.hid slA1
    have ZA := Lib.hid zA
    have HWA := Lib.hid hWA
    rw [hWA] at hlA kA SLA ZA SA
    clear hz0 hz1 hz2 hi hcA IA slA BA sl5 hps hv5 PA slA1 d0 dA zA II SS PP OO GG HN HU HM HN1 HN0 HL0 HK HG HG2 HV0 S0 LK KK FF I1h S1 P1
    go_wp2_with fail
    go_region_held3 (fun W => W.cell? ⟨b, 2, none⟩ = some (.map (some ml)) ∧ W.cell? ⟨w.heap.size, 0, none⟩ = some (.string (bs p.n)) ∧ W.cell? ⟨w.heap.size, 1, none⟩ = some (.string (bs p.v)))
      (first | exact k3 | exact kA | exact k6 | exact k7 | assumption | fail)
      (first
        | (refine step_append_sl rfl (.tmp 53) (.tmp 55) 51 rfl base 53 i0 (.agg #[.string ⟨#[]⟩, .string ⟨#[]⟩]) 2 32 Tryz.underlying51 Hi.out Hz.out Hs.out Hb.out rfl (by decide) v5 ps.length (prc ps) (by simp [Act.eval]) SLA.out ⟨W3.heap.size, 0, none⟩ 1 1 (prc [p]) (by simp [Act.eval]) rfl SA.out.cells (prc_one _) (by unfold maxLen; omega) (by omega) ZA.out ?_; intro v6 w6 x6; have F6 := FIN.out w6 v6 (by rw [HWA.out]; exact x6); have k6 := F6.1; have L6 := F6.2.1; have k7 := F6.2.2.1; have E6 := Lib.hid F6.2.2.2; clear F6)
        | fail)
    all_goals go_wp2
    all_goals go_end0
    all_goals exact ⟨rfl, E6.out⟩
end Go.Proofs.YtefhnjepocbodaaGreatDoor

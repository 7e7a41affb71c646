/- Layer 12: a new index; Get and All, whatever is in it. Layer 12: an index's maps as the shelf's contracts on maps.Keys read them. Layer 12: Names, whatever is in the index: the shelf's contracts on slices.Sorted(maps.Keys(m)), laid at this seat (made by wip/iter.sh ahead). Layer 12: Add of a series that isn't there, whatever else is in the index. -/
import Derived.Test.YtefhnjepocbodaaGreatDoorMIX5
import Derived.Test.YtefhnjepocbodaaGreatDoorMTG
import Derived.Sort.KeysCollected
import Derived.Test.YtefhnjepocbodaaGreatDoorItr
import Derived.Test.YtefhnjepocbodaaGreatDoorMIX2
namespace Go.Proofs.YtefhnjepocbodaaGreatDoor
open Go.RowKit Go.Lib

theorem new_ix (w : World) : Calls Tryz.prog 11 #[] w fun e w' => ∃ b mh ml o, e = .returned (.pointer (some ⟨b, 0, none⟩)) ∧ IxW w.heap.size b mh ml (.slice none 0 0) [] [] 0 [] 0 o w' ∧ Below w.heap.size w w' := by
  classical
  refine (new12 w).mono ?_
  rintro e w' ⟨b, mh, ml, rfl, ⟨h1, h2, h3⟩, hb, m1, m2, bl⟩
  have hbw : b < w'.heap.size := (Array.getElem?_eq_some_iff.1 hb.box).1
  refine ⟨b, mh, ml, fun k => if k = b then some .box else if k = mh then some .having else if k = ml then some .labels else none, rfl, ⟨hb.box, by simp, ?_, ?_, ?_, ⟨Sl.nil _ _ _, (fun _ h => by cases h)⟩, m1, m2, (fun _ h => by cases h), (fun _ h => by cases h), List.nodup_nil, List.nodup_nil, BornK.nil _ _⟩, bl⟩
  · simp only [if_neg (fun e => hb.bh e.symm : ¬ mh = b), if_true]
  · simp only [if_neg (fun e => hb.bl e.symm : ¬ ml = b), if_neg (fun e => hb.hl e.symm : ¬ ml = mh), if_true]
  · intro k t hk
    have q1 := mapIs_lt m1
    have q2 := mapIsJ_lt m2
    by_cases e1 : k = b
    · omega
    · by_cases e2 : k = mh
      · omega
      · by_cases e3 : k = ml
        · omega
        · simp only [if_neg e1, if_neg e2, if_neg e3] at hk; cases hk

theorem lk_nilmap (w : World) (y : List UInt8) : (Instr.lookup 103 (.map none) (.string (bs y)) false).run Tryz.prog w = .ok (.slice none 0 0) w := by
  have hk := Tryz.underlying9
  have hkey : MapKept.IsKey .string (.string (bs y)) := trivial
  have hck := fun b : Bool => MapKept.run_checkKey (P := Tryz.prog) (w := w) hk hkey b 9999
  have hfk : (Instr.findKey 9 (.string (bs y)) []).run Tryz.prog w = .ok none w := MapKept.run_findKey (P := Tryz.prog) (w := w) hk (by rfl)
  simp [Instr.lookup, run_underlying Tryz.underlying103, hck, Result.andThen, hfk]

set_option maxHeartbeats 1000000 in
set_option maxRecDepth 100000 in
theorem get_any (base b mh ml ch cl : Nat) (va : Value) (A : List Int) (H : List HEn) (L : List LEn) (o : Own) (x y : List UInt8) (w : World) (h : IxW base b mh ml va A H ch L cl o w) (hl : (getH H x y).length ≤ 100000) :
    Calls Tryz.prog 71 #[.pointer (some ⟨b, 0, none⟩), .string (bs x), .string (bs y)] w (NewN w (getH H x y)) := by
  have k1 : w.cell? ⟨b, 1, none⟩ = some (.map (some mh)) := Lib.cell_of_heap h.box 1
  have l1 := lkH mh ch x h.mapH
  obtain ⟨r, v0, hr, l2, sl0⟩ : ∃ (r : Option Nat) (v0 : Value), (((lookK HEn.x x H).map fun h => Value.map (some h.mi)).getD (.map none)) = .map r ∧ (Instr.lookup 103 (.map r) (.string (bs y)) false).run Tryz.prog w = .ok v0 w ∧ ∃ t, SlO base o t w 1 v0 (getH H x y).length (ic (getH H x y)) := by
    rcases e : lookK HEn.x x H with _ | k
    · exact ⟨none, _, rfl, lk_nilmap w y, .all, by unfold getH; rw [e]; exact SlO.nil _ _ _ _ _⟩
    · have K := h.inner k (lookK_mem HEn.x e).1
      obtain ⟨v0, hv0, sl0⟩ := K.val y
      have := lkI k.mi k.ci y k.vs K.2.1
      rw [hv0] at this
      exact ⟨some k.mi, v0, rfl, this, _, by unfold getH; rw [e]; exact sl0⟩
  obtain ⟨t, sl0⟩ := sl0
  rw [hr] at l1
  have C := Lib.hid (nclone_any v0 (getH H x y) w (Nc.of_sl sl0.1 hl))
  clear h hr sl0 hl
  go_enter Tryz.func71, Tryz.ntmps71
  go_wp2_with fail
  refine C.out.mono ?_
  rintro e w1 ⟨v1, rfl, s1, b1⟩
  go_wp2
  go_ret
  exact ⟨_, rfl, s1, b1⟩

set_option maxHeartbeats 1000000 in
set_option maxRecDepth 100000 in
theorem all_any12 (base b mh ml ch cl : Nat) (va : Value) (A : List Int) (H : List HEn) (L : List LEn) (o : Own) (w : World) (h : IxW base b mh ml va A H ch L cl o w) (hl : A.length ≤ 100000) :
    Calls Tryz.prog 23 #[.pointer (some ⟨b, 0, none⟩)] w (NewN w A) := by
  have k0 : w.cell? ⟨b, 0, none⟩ = some va := Lib.cell_of_heap h.box 0
  have C := Lib.hid (nclone_any va A w (Nc.of_sl h.all.1 hl))
  clear h hl
  go_enter Tryz.func23, Tryz.ntmps23
  go_wp2_with fail
  refine C.out.mono ?_
  rintro e w1 ⟨v1, rfl, s1, b1⟩
  go_wp2
  go_ret
  exact ⟨_, rfl, s1, b1⟩
end Go.Proofs.YtefhnjepocbodaaGreatDoor

namespace Go.Proofs.YtefhnjepocbodaaGreatDoor
open Go.RowKit Go.Lib

set_option maxRecDepth 100000 in
/-- A map whose keys are texts, its entries' births told: any reader of values will do. -/
theorem mapIs_owns {α : Type} (key : α → List UInt8) (born : α → Nat) (en : α → En) (he : ∀ a, (en a).name = bs (key a)) (hbn : ∀ a, (en a).born = born a) {m c : Nat} {w : World} {l : List α} (h : MapIs m (l.map en) c w) (hb : BornK born c l) (hk : (l.map key).Nodup)
    (hx : ∀ a ∈ l, (key a).length ≤ maxLen) (hl : l.length ≤ maxLen) :
    ∃ D : DataW Unit, w.ownsMap Tryz.prog 9 (fun _ => some (.nil, [])) m l.length D ∧ Maps.size D = l.length ∧ (strKeys D).Perm (l.map key) := by
  have hrd : ∀ a ∈ l, WideElems.rd (H := Unit) Tryz.prog 9 (fun _ => some (.nil, [])) (en a).ent = some (.string (key a), .nil) := fun a ha => by
    have h1 : keyOf Tryz.prog 9 (.string (bs (key a))) = some (.string (key a)) := by
      have hsz : (bs (key a)).size ≤ maxLen := by rw [bs_size]; exact hx a ha
      simp [keyOf, mapKey, hsz, bs_list]
    unfold WideElems.rd En.ent
    rw [he, h1]
    rfl
  refine ⟨_, ⟨_, c, h, ⟨by simpa using hl, ⟨fun x hx => ?_, ?_, ?_⟩, fun x hx => ?_⟩, by simp, rfl⟩, ?_, ?_⟩
  · simp only [List.map_map, List.mem_map] at hx
    obtain ⟨a, ha, rfl⟩ := hx
    show (en a).born < c
    rw [hbn]; exact hb.1 a ha
  · have e : (((l.map en).map En.ent).toArray.toList.map (·.born)) = l.map born := by
      simp only [List.map_map]
      exact List.map_congr_left fun a _ => hbn a
    rw [e]; exact hb.2
  · have e : (((l.map en).map En.ent).toArray.toList.map (·.key)) = (l.map key).map (fun x => Value.string (bs x)) := by
      simp only [List.map_map]
      exact List.map_congr_left fun a _ => by show Value.string (en a).name = _; rw [he]; rfl
    rw [e]
    exact List.Pairwise.map _ (fun x y hne e => hne (bs_eq.1 (Value.string.inj e))) hk
  · simp only [List.map_map, List.mem_map] at hx
    obtain ⟨a, ha, rfl⟩ := hx
    exact ⟨_, hrd a ha⟩
  · rw [Maps.size_eq, DataW.length_sorted]; simp
  · refine ((WideShapes.sorted_perm _).map (fun p => strOf p.1)).trans ?_
    have e : (((((l.map en).map En.ent).toArray.toList.map (WideElems.rg (H := Unit) Tryz.prog 9 (fun _ => some (.nil, [])))).map fun p => strOf p.1)) = l.map key := by
      simp only [List.map_map]
      exact List.map_congr_left fun a ha => by
        show strOf (WideElems.rg _ _ _ (en a).ent).1 = key a
        rw [WideElems.rg_of (hrd a ha)]; rfl
    exact List.Perm.of_eq e
end Go.Proofs.YtefhnjepocbodaaGreatDoor

namespace Go.Proofs.YtefhnjepocbodaaGreatDoor
open Go.RowKit Go.Lib Go.Maps Go.Sort Go.Shelf

/-- An index of which no name and value has a series has no entries. -/
theorem none_of_get {H : List HEn} (F : Full H) (hn : (H.map HEn.x).Nodup) (hv : ∀ h ∈ H, (h.vs.map VEn.y).Nodup) (h0 : ∀ x y, getH H x y = []) : H = [] := by
  rcases H with _ | ⟨k, H⟩
  · rfl
  · exfalso
    obtain ⟨h1, h2⟩ := F k (by simp)
    rcases e : k.vs with _ | ⟨v, vs⟩
    · exact h1 e
    · have hm : v ∈ k.vs := by rw [e]; simp
      have hl := lookK_of_mem VEn.y (hv k (by simp)) hm
      have := h0 k.x v.y
      unfold getH at this
      rw [lookK_of_mem HEn.x hn (by simp)] at this
      have g : getV k.vs v.y = v.l := by unfold getV; rw [hl]; rfl
      exact h2 v hm (by rw [← g]; exact this)
end Go.Proofs.YtefhnjepocbodaaGreatDoor

namespace Go.Proofs.YtefhnjepocbodaaGreatDoor
open Go.RowKit Go.Lib

/-- What the first labels of a new series leave of entries. -/
structure AddIn (n : Int) (ps : List Pr) (H : List HEn) (L : List LEn) (H' : List HEn) (L' : List LEn) : Prop where
  get : ∀ x y, getH H' x y = if (⟨x, y⟩ : Pr) ∈ ps then putZ (getH H x y) n else getH H x y
  lab : ∀ m, getL L' m = if m = n then getL L m ++ ps else getL L m
  full : Full H → Full H'
theorem AddIn.zero (n : Int) (H : List HEn) (L : List LEn) : AddIn n [] H L H L := ⟨fun x y => by simp, fun m => by simp, id⟩
theorem AddIn.step {n : Int} {ps : List Pr} {p : Pr} {H H1 H2 : List HEn} {L L1 L2 : List LEn} (a : AddIn n ps H L H1 L1) (s : PairIn n p H1 L1 H2 L2) (hp : p ∉ ps) (hn : n ∉ getH H p.n p.v) : AddIn n (ps ++ [p]) H L H2 L2 := by
  have hg : getH H1 p.n p.v = getH H p.n p.v := by rw [a.get, if_neg hp]
  refine ⟨fun x y => ?_, fun m => ?_, fun F => s.full (a.full F)⟩
  · rw [s.get]
    by_cases e : x = p.n ∧ y = p.v
    · obtain ⟨rfl, rfl⟩ := e
      rw [if_pos ⟨rfl, rfl⟩, if_pos (by simp), hg]
    · have hne : (⟨x, y⟩ : Pr) ≠ p := fun h => e (by rw [← h]; exact ⟨rfl, rfl⟩)
      rw [if_neg e, a.get]
      by_cases h2 : (⟨x, y⟩ : Pr) ∈ ps
      · rw [if_pos h2, if_pos (by simp [h2])]
      · rw [if_neg h2, if_neg (by simp [h2, hne])]
  · rw [s.lab, hg, a.lab]
    by_cases e : m = n
    · rw [if_pos ⟨e, hn⟩, if_pos e, if_pos e, List.append_assoc]
    · rw [if_neg (fun h => e h.1), if_neg e, if_neg e]

set_option maxHeartbeats 2000000 in
set_option maxRecDepth 100000 in
theorem add_new (base b mh ml ch cl : Nat) (va : Value) (A : List Int) (H : List HEn) (L : List LEn) (o : Own) (n : Int) (ps : List Pr) (sv : Value) (w : World) (h : IxW base b mh ml va A H ch L cl o w)
    (hs : Rd w 2 sv ps.length (prc ps)) (hso : ∀ k, sv.ownBlock = some k → o k = none) (hA : Up A) (hAl : A.length ≤ 99999) (hps : ps.Nodup) (hpl : ps.length ≤ 1000)
    (hu : ∀ x y, Up (getH H x y) ∧ (getH H x y).length ≤ 90000) (hg : ∀ m, (getL L m).length ≤ 90000) (hn : ∀ x y, n ∉ getH H x y) :
    Calls Tryz.prog 15 #[.pointer (some ⟨b, 0, none⟩), .int .i64 n, sv] w fun e w' => e = .returned (.tuple #[]) ∧ ∃ va' H' ch' L' cl' o', IxW base b mh ml va' (putZ A n) H' ch' L' cl' o' w' ∧ Stp (fun _ => True) o o' w w' ∧ AddIn n ps H L H' L' := by
  have hbw := h.lt_b
  have c0 : w.cell? ⟨b, 0, none⟩ = some va := Lib.cell_of_heap h.box 0
  have C := Lib.hid (with_any base va A n w h.all.1 hA (by omega) h.big)
  obtain ⟨a0, k0, rfl⟩ := h.all.1.slice
  obtain ⟨_, sa, sc, sg, so, rfl, hsg, hsc⟩ := hs
  obtain ⟨N, hN⟩ : ∃ N, N = ps.length := ⟨_, rfl⟩
  obtain ⟨NA, hNA⟩ : ∃ NA, NA = A.length := ⟨_, rfl⟩
  have HI := Lib.hid h
  have HSG := Lib.hid hsg
  have HSC := Lib.hid hsc
  have HSO := Lib.hid hso
  have HNh := Lib.hid hN
  have hNb : N ≤ 1000 := by omega
  rw [← hNA] at C c0 
  rw [← hN]
  have HNA := Lib.hid hNA
  clear h hsg hsc hso hN hNA hA
  go_enter Tryz.func15, Tryz.ntmps15
  go_wp2_with fail
  refine C.out.mono ?_
  rintro e w1 hLW
  have h := HI.out
  obtain ⟨v1, o1, rfl, s1, sl1⟩ := hLW.own (by rw [HNA.out]; exact h.all) h.lt
  obtain ⟨a1, k1, e1⟩ := sl1.1.slice
  obtain ⟨N1, hN1⟩ : ∃ N1, N1 = (putZ A n).length := ⟨_, rfl⟩
  rw [← hN1] at e1
  subst e1
  have ib1 := (s1.block h.ob nofun hbw).trans h.box
  have c01 : w1.cell? ⟨b, 0, none⟩ = some (.slice a0 NA k0) := by rw [Lib.cell_of_heap ib1 0, HNA.out]; rfl
  have f01 : w1.frozen? ⟨b, 0, none⟩ = false := Lib.frozen_of_heap ib1 0
  obtain ⟨W2, hW2⟩ : ∃ W2, W2 = w1.setCell ⟨b, 0, none⟩ (.slice a1 N1 k1) := ⟨_, rfl⟩
  have s2 : Stp (fun u => u = Tag.box) o1 o1 w1 W2 := by rw [hW2]; exact Stp.one (s1.keep _ _ h.ob) ((Turn.refl _ w1).setCell ⟨b, 0, none⟩ _ rfl)
  have bx : W2.heap[b]? = some (.cells #[.slice a1 N1 k1, .map (some mh), .map (some ml)] 77) := by
    have := heap_setCell_same w1 b 0 _ _ (.slice a1 N1 k1) ib1
    rw [hW2, this]; rfl
  have s12 := (s1.mono (T' := fun t => t = .all ∨ t = .box) (fun _ => .inl)).trans (s2.mono fun _ => .inr)
  have I2 := h.setAll s12 (fun _ => id) bx (sl1.step s2 nofun)
  have II := Lib.hid I2
  have S2 := Lib.hid (s12.mono (T' := fun _ => True) (fun _ _ => trivial))
  clear hLW s1 s2 s12 sl1 bx ib1 I2 h C
  clear hN1
  go_wp2_with fail
  go_loopw [19] (fun i' wr => ∃ i : Nat, i' = .int .i64 i ∧ i ≤ N ∧ Hid (∃ H' ch' L' cl' o', IxW base b mh ml (.slice a1 N1 k1) (putZ A n) H' ch' L' cl' o' wr ∧ Stp (fun _ => True) o o' w wr ∧ AddIn n (ps.take i) H L H' L')) (fun i' _ => N - (RowKit.intOf i').toNat)
  case atStart =>
    refine ⟨0, rfl, Nat.zero_le _, Lib.hid ?_⟩
    rw [← hW2]
    exact ⟨H, ch, L, cl, o1, II.out, S2.out, by rw [List.take_zero]; exact AddIn.zero n H L⟩
  case round =>
    obtain ⟨i, rfl, hi, hst⟩ := hrel
    obtain ⟨H1, ch1, L1, cl1, o2, I, S, Ad⟩ := hst.out
    clear hst hW2
    by_cases hlt : i < N
    · obtain ⟨p, hp⟩ : ∃ p, ps[i]? = some p := ⟨_, List.getElem?_eq_getElem (by have := HNh.out; omega)⟩
      obtain ⟨rfl, hsw⟩ := HSG.out (by have := HNh.out; omega)
      have hoS : o sg = none := HSO.out sg rfl
      have blk : wr.heap[sg]? = w.heap[sg]? := S.block' hoS hsw
      obtain ⟨pa, pb⟩ := prc_at ps i p hp
      have u0 : wr.cell? ⟨sg, so + i * 2, none⟩ = some (.string (bs p.n)) := (World.cell?_of_block (a := ⟨sg, so + i * 2, none⟩) blk).trans ((HSC.out (i * 2) (by have := HNh.out; omega)).trans pa)
      have u1 : wr.cell? ⟨sg, so + i * 2 + 1, none⟩ = some (.string (bs p.v)) := (World.cell?_of_block (a := ⟨sg, so + i * 2 + 1, none⟩) blk).trans ((HSC.out (i * 2 + 1) (by have := HNh.out; omega)).trans pb)
      have hsz : sg < wr.heap.size := Nat.lt_of_lt_of_le hsw S.turn.size
      obtain ⟨P, hP⟩ : ∃ P : Obj, P = .cells #[.string (bs p.n), .string (bs p.v)] 53 := ⟨_, rfl⟩
      have hu1 : ∀ x y, Up (getH H1 x y) ∧ (getH H1 x y).length ≤ 99999 := fun x y => by
        have h1 := hu x y
        rw [Ad.get]
        split
        · exact ⟨putZ_up _ _ h1.1, by have := putZ_len (getH H x y) n; omega⟩
        · exact ⟨h1.1, by omega⟩
      have hg1 : ∀ m, (getL L1 m).length ≤ 99999 := fun m => by
        have h1 := hg m
        rw [Ad.lab]
        split
        · rw [List.length_append, List.length_take]; omega
        · omega
      have AP := Lib.hid (addp_any base b mh ml ch1 cl1 (.slice a1 N1 k1) (putZ A n) H1 L1 o2 n p (wr.alloc P) (I.other ((Stp.refl (fun _ => False) o2 wr).alloc P) (fun _ => id)) hu1 hg1)
      have hnp : p ∉ ps.take i := fun hm => by
        obtain ⟨j, hj⟩ := List.getElem?_of_mem hm
        rw [List.getElem?_take] at hj
        split at hj
        · rename_i hji
          have := (List.getElem?_inj (i := j) (j := i) (by have := (List.getElem?_eq_some_iff.1 hj).1; omega) hps).1 (hj.trans hp.symm)
          omega
        · cases hj
      have htk : ps.take (i + 1) = ps.take i ++ [p] := by rw [List.take_add_one, hp]; rfl
      have HT := Lib.hid htk
      have HNP := Lib.hid hnp
      have SA := Lib.hid (S.alloc P)
      have AD := Lib.hid Ad
      rw [hP] at AP SA
      have hlt' : (i : Int) < N := by omega
      clear hP P hu1 hg1 hnp htk I S Ad pa pb blk hoS hp
      go_wp2_with fail
      refine AP.out.mono ?_
      rintro e w3 ⟨rfl, H2, ch2, L2, cl2, o3, I3, S3, PI⟩
      have FF := Lib.hid (show ∃ H' ch' L' cl' o', IxW base b mh ml (.slice a1 N1 k1) (putZ A n) H' ch' L' cl' o' w3 ∧ Stp (fun _ => True) o o' w w3 ∧ AddIn n (ps.take (i + 1)) H L H' L' from ⟨H2, ch2, L2, cl2, o3, I3, SA.out.trans (S3.mono fun _ _ => trivial), by rw [HT.out]; exact AD.out.step PI HNP.out (hn _ _)⟩)
      have HLT := Lib.hid hlt
      clear I3 S3 PI u0 u1 hn hu hg hsw hsz hi hpl hps hAl hlt hlt' c0 c01 f01 AP SA AD HT HNP
      go_wp2
      have hlt := HLT.out
      have hw2 : wrap64 ((i : Int) + 1) = ((i + 1 : Nat) : Int) := by unfold wrap64; omega
      rw [hw2]
      refine ⟨⟨i + 1, rfl, hlt, FF⟩, ?_⟩
      show N - ((i + 1 : Nat) : Int).toNat < N - ((i : Nat) : Int).toNat
      rw [Int.toNat_natCast, Int.toNat_natCast]
      omega
    · obtain rfl : i = N := by omega
      have FF := Lib.hid (show ∃ H' ch' L' cl' o', IxW base b mh ml (.slice a1 N1 k1) (putZ A n) H' ch' L' cl' o' wr ∧ Stp (fun _ => True) o o' w wr ∧ AddIn n ps H L H' L' from ⟨H1, ch1, L1, cl1, o2, I, S, by have := Ad; rw [HNh.out, List.take_length] at this; exact this⟩)
      have hlt' : ¬ (i : Int) < i := by omega
      clear I S Ad
      go_wp2
      go_end0
      exact ⟨rfl, _, FF.out⟩
end Go.Proofs.YtefhnjepocbodaaGreatDoor

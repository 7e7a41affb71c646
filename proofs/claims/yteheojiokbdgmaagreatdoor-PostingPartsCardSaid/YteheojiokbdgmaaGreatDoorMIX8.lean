/- Layer 12: an index's maps as the shelf's contracts on maps.Keys read them. Layer 12: Names, whatever is in the index: the shelf's contracts on slices.Sorted(maps.Keys(m)), laid at this seat (made by wip/iter.sh ahead). Layer 12: Add of a series that isn't there, whatever else is in the index. -/
import Derived.Test.YteheojiokbdgmaaGreatDoorMTH
import Derived.Sort.KeysCollected
import Derived.Test.YteheojiokbdgmaaGreatDoorItr
import Derived.Test.YteheojiokbdgmaaGreatDoorMIX2
import Derived.Test.YteheojiokbdgmaaGreatDoorMIX6
namespace Go.Proofs.YteheojiokbdgmaaGreatDoor
open Go.RowKit Go.Lib

set_option maxRecDepth 100000 in
/-- A map whose keys are texts, its entries' births told: any reader of values will do. -/
theorem mapIs_owns {α : Type} (key : α → List UInt8) (born : α → Nat) (en : α → En) (he : ∀ a, (en a).name = bs (key a)) (hbn : ∀ a, (en a).born = born a) {m c : Nat} {w : World} {l : List α} (h : MapIs m (l.map en) c w) (hb : BornK born c l) (hk : (l.map key).Nodup)
    (hx : ∀ a ∈ l, (key a).length ≤ maxLen) (hl : l.length ≤ maxLen) :
    ∃ D : DataW Unit, w.ownsMap Tryz.prog 9 (fun _ => some (.nil, [])) m l.length D ∧ Maps.size D = l.length ∧ (strKeys D).Perm (l.map key) := by
  have hrd : ∀ a ∈ l, WideElems.rd (H := Unit) Tryz.prog 9 (fun _ => some (.nil, [])) (en a).ent = some (.string (key a), .nil) := fun a ha => by
    have h1 : keyOf Tryz.prog 9 (.string (bs (key a))) = some (.string (key a)) := by
      have hsz : (bs (key a)).size ≤ maxLen := by rw [bs_size]; exact hx a ha
      simp [keyOf, mapKey, hsz, bs_list]
    unfold WideElems.rd En.ent
    rw [he, h1]
    rfl
  refine ⟨_, ⟨_, c, h, ⟨by simpa using hl, ⟨fun x hx => ?_, ?_, ?_⟩, fun x hx => ?_⟩, by simp, rfl⟩, ?_, ?_⟩
  · simp only [List.map_map, List.mem_map] at hx
    obtain ⟨a, ha, rfl⟩ := hx
    show (en a).born < c
    rw [hbn]; exact hb.1 a ha
  · have e : (((l.map en).map En.ent).toArray.toList.map (·.born)) = l.map born := by
      simp only [List.map_map]
      exact List.map_congr_left fun a _ => hbn a
    rw [e]; exact hb.2
  · have e : (((l.map en).map En.ent).toArray.toList.map (·.key)) = (l.map key).map (fun x => Value.string (bs x)) := by
      simp only [List.map_map]
      exact List.map_congr_left fun a _ => by show Value.string (en a).name = _; rw [he]; rfl
    rw [e]
    exact List.Pairwise.map _ (fun x y hne e => hne (bs_eq.1 (Value.string.inj e))) hk
  · simp only [List.map_map, List.mem_map] at hx
    obtain ⟨a, ha, rfl⟩ := hx
    exact ⟨_, hrd a ha⟩
  · rw [Maps.size_eq, DataW.length_sorted]; simp
  · refine ((WideShapes.sorted_perm _).map (fun p => strOf p.1)).trans ?_
    have e : (((((l.map en).map En.ent).toArray.toList.map (WideElems.rg (H := Unit) Tryz.prog 9 (fun _ => some (.nil, [])))).map fun p => strOf p.1)) = l.map key := by
      simp only [List.map_map]
      exact List.map_congr_left fun a ha => by
        show strOf (WideElems.rg _ _ _ (en a).ent).1 = key a
        rw [WideElems.rg_of (hrd a ha)]; rfl
    exact List.Perm.of_eq e
end Go.Proofs.YteheojiokbdgmaaGreatDoor

namespace Go.Proofs.YteheojiokbdgmaaGreatDoor
open Go.RowKit Go.Lib Go.Maps Go.Sort Go.Shelf

set_option maxHeartbeats 1000000 in
set_option maxRecDepth 100000 in
theorem names_any (base b mh ml ch cl : Nat) (va : Value) (A : List Int) (H : List HEn) (L : List LEn) (o : Own) (w : World) (h : IxW base b mh ml va A H ch L cl o w) (hx : ∀ a ∈ H, a.x.length ≤ maxLen) (hl : H.length ≤ 1000000) :
    Calls Tryz.prog 15 #[.pointer (some ⟨b, 0, none⟩)] w fun e w' => ∃ (v : Value) (ss : List (List UInt8)), e = .returned v ∧ ss.Perm (H.map HEn.x) ∧
      w'.ownsRow w.heap.size 9 1 v ss.length ((ss.mergeSort (fun x y => decide (x ≤ y))).map Go.Proofs.encStr) ∧ (v = .slice none 0 0 ↔ ss = []) ∧ Below w.heap.size w w' := by
  have k1 : w.cell? ⟨b, 1, none⟩ = some (.map (some mh)) := Lib.cell_of_heap h.box 1
  obtain ⟨D, hown, hsz, hpm⟩ := mapIs_owns HEn.x HEn.born HEn.en (fun _ => rfl) (fun _ => rfl) h.mapH h.bornH h.keysH hx (by unfold maxLen; omega)
  have hmax : Maps.size D ≤ maxLen := by rw [hsz]; unfold maxLen; omega
  have hbytes : Maps.size D * 16 ≤ 140737488355328 := by omega
  have HP := Lib.hid hpm
  clear h hpm
  refine (callsIn_wide (n := 6)).1 ?_
  have hfK : Fence.wide.fn 30 := trivial
  have hfS : Fence.wide.fn 27 := trivial
  refine callsIn_of_wp Tryz.func15 rfl trivial ?_ rfl
  simp only [Tryz.ntmps15, List.size_toArray, List.length_cons, List.length_nil, Nat.reduceAdd, Nat.reduceSub, Array.replicate_succ, Array.replicate_zero, List.push_toArray, List.append_toArray, List.nil_append, List.cons_append]
  gi_wp2_with (first
    | (gi_at_call 30; refine (Tryz.maps_Keys_30 _ _).mono ?_; rintro e w' ⟨rfl, rfl⟩)
    | (gi_at_call 27; refine (Tryz.slices_Sorted_keys_27_30 mh H.length D _ w hown hmax hbytes).mono ?_; rintro e w' ⟨v, ss, rfl, hS, hrow, hnil, hb⟩))
  go_ret
  exact ⟨v, ss, rfl, hS.trans HP.out, ownsRow_base_a hrow (by simp), hnil, ((Below.refl _ w).alloc (Nat.le_refl _) _).trans (hb.mono (by simp))⟩
/-- An index of which no name and value has a series has no entries. -/
theorem none_of_get {H : List HEn} (F : Full H) (hn : (H.map HEn.x).Nodup) (hv : ∀ h ∈ H, (h.vs.map VEn.y).Nodup) (h0 : ∀ x y, getH H x y = []) : H = [] := by
  rcases H with _ | ⟨k, H⟩
  · rfl
  · exfalso
    obtain ⟨h1, h2⟩ := F k (by simp)
    rcases e : k.vs with _ | ⟨v, vs⟩
    · exact h1 e
    · have hm : v ∈ k.vs := by rw [e]; simp
      have hl := lookK_of_mem VEn.y (hv k (by simp)) hm
      have := h0 k.x v.y
      unfold getH at this
      rw [lookK_of_mem HEn.x hn (by simp)] at this
      have g : getV k.vs v.y = v.l := by unfold getV; rw [hl]; rfl
      exact h2 v hm (by rw [← g]; exact this)
end Go.Proofs.YteheojiokbdgmaaGreatDoor

namespace Go.Proofs.YteheojiokbdgmaaGreatDoor
open Go.RowKit Go.Lib

/-- What the first labels of a new series leave of entries. -/
structure AddIn (n : Int) (ps : List Pr) (H : List HEn) (L : List LEn) (H' : List HEn) (L' : List LEn) : Prop where
  get : ∀ x y, getH H' x y = if (⟨x, y⟩ : Pr) ∈ ps then putZ (getH H x y) n else getH H x y
  lab : ∀ m, getL L' m = if m = n then getL L m ++ ps else getL L m
  full : Full H → Full H'
theorem AddIn.zero (n : Int) (H : List HEn) (L : List LEn) : AddIn n [] H L H L := ⟨fun x y => by simp, fun m => by simp, id⟩
theorem AddIn.step {n : Int} {ps : List Pr} {p : Pr} {H H1 H2 : List HEn} {L L1 L2 : List LEn} (a : AddIn n ps H L H1 L1) (s : PairIn n p H1 L1 H2 L2) (hp : p ∉ ps) (hn : n ∉ getH H p.n p.v) : AddIn n (ps ++ [p]) H L H2 L2 := by
  have hg : getH H1 p.n p.v = getH H p.n p.v := by rw [a.get, if_neg hp]
  refine ⟨fun x y => ?_, fun m => ?_, fun F => s.full (a.full F)⟩
  · rw [s.get]
    by_cases e : x = p.n ∧ y = p.v
    · obtain ⟨rfl, rfl⟩ := e
      rw [if_pos ⟨rfl, rfl⟩, if_pos (by simp), hg]
    · have hne : (⟨x, y⟩ : Pr) ≠ p := fun h => e (by rw [← h]; exact ⟨rfl, rfl⟩)
      rw [if_neg e, a.get]
      by_cases h2 : (⟨x, y⟩ : Pr) ∈ ps
      · rw [if_pos h2, if_pos (by simp [h2])]
      · rw [if_neg h2, if_neg (by simp [h2, hne])]
  · rw [s.lab, hg, a.lab]
    by_cases e : m = n
    · rw [if_pos ⟨e, hn⟩, if_pos e, if_pos e, List.append_assoc]
    · rw [if_neg (fun h => e h.1), if_neg e, if_neg e]

set_option maxHeartbeats 2000000 in
set_option maxRecDepth 100000 in
theorem add_new (base b mh ml ch cl : Nat) (va : Value) (A : List Int) (H : List HEn) (L : List LEn) (o : Own) (n : Int) (ps : List Pr) (sv : Value) (w : World) (h : IxW base b mh ml va A H ch L cl o w)
    (hs : Rd w 2 sv ps.length (prc ps)) (hso : ∀ k, sv.ownBlock = some k → o k = none) (hA : Up A) (hAl : A.length ≤ 99999) (hps : ps.Nodup) (hpl : ps.length ≤ 1000)
    (hu : ∀ x y, Up (getH H x y) ∧ (getH H x y).length ≤ 90000) (hg : ∀ m, (getL L m).length ≤ 90000) (hn : ∀ x y, n ∉ getH H x y) :
    Calls Tryz.prog 21 #[.pointer (some ⟨b, 0, none⟩), .int .i64 n, sv] w fun e w' => e = .returned (.tuple #[]) ∧ ∃ va' H' ch' L' cl' o', IxW base b mh ml va' (putZ A n) H' ch' L' cl' o' w' ∧ Stp (fun _ => True) o o' w w' ∧ AddIn n ps H L H' L' := by
  have hbw := h.lt_b
  have c0 : w.cell? ⟨b, 0, none⟩ = some va := Lib.cell_of_heap h.box 0
  have C := Lib.hid (with_any base va A n w h.all.1 hA (by omega) h.big)
  obtain ⟨a0, k0, rfl⟩ := h.all.1.slice
  obtain ⟨_, sa, sc, sg, so, rfl, hsg, hsc⟩ := hs
  obtain ⟨N, hN⟩ : ∃ N, N = ps.length := ⟨_, rfl⟩
  obtain ⟨NA, hNA⟩ : ∃ NA, NA = A.length := ⟨_, rfl⟩
  have HI := Lib.hid h
  have HSG := Lib.hid hsg
  have HSC := Lib.hid hsc
  have HSO := Lib.hid hso
  have HNh := Lib.hid hN
  have hNb : N ≤ 1000 := by omega
  rw [← hNA] at C c0 
  rw [← hN]
  have HNA := Lib.hid hNA
  clear h hsg hsc hso hN hNA hA
  go_enter Tryz.func21, Tryz.ntmps21
  go_wp2_with fail
  refine C.out.mono ?_
  rintro e w1 hLW
  have h := HI.out
  obtain ⟨v1, o1, rfl, s1, sl1⟩ := hLW.own (by rw [HNA.out]; exact h.all) h.lt
  obtain ⟨a1, k1, e1⟩ := sl1.1.slice
  obtain ⟨N1, hN1⟩ : ∃ N1, N1 = (putZ A n).length := ⟨_, rfl⟩
  rw [← hN1] at e1
  subst e1
  have ib1 := (s1.block h.ob nofun hbw).trans h.box
  have c01 : w1.cell? ⟨b, 0, none⟩ = some (.slice a0 NA k0) := by rw [Lib.cell_of_heap ib1 0, HNA.out]; rfl
  have f01 : w1.frozen? ⟨b, 0, none⟩ = false := Lib.frozen_of_heap ib1 0
  obtain ⟨W2, hW2⟩ : ∃ W2, W2 = w1.setCell ⟨b, 0, none⟩ (.slice a1 N1 k1) := ⟨_, rfl⟩
  have s2 : Stp (fun u => u = Tag.box) o1 o1 w1 W2 := by rw [hW2]; exact Stp.one (s1.keep _ _ h.ob) ((Turn.refl _ w1).setCell ⟨b, 0, none⟩ _ rfl)
  have bx : W2.heap[b]? = some (.cells #[.slice a1 N1 k1, .map (some mh), .map (some ml)] 70) := by
    have := heap_setCell_same w1 b 0 _ _ (.slice a1 N1 k1) ib1
    rw [hW2, this]; rfl
  have s12 := (s1.mono (T' := fun t => t = .all ∨ t = .box) (fun _ => .inl)).trans (s2.mono fun _ => .inr)
  have I2 := h.setAll s12 (fun _ => id) bx (sl1.step s2 nofun)
  have II := Lib.hid I2
  have S2 := Lib.hid (s12.mono (T' := fun _ => True) (fun _ _ => trivial))
  clear hLW s1 s2 s12 sl1 bx ib1 I2 h C
  clear hN1
  go_wp2_with fail
  go_loopw [19] (fun i' wr => ∃ i : Nat, i' = .int .i64 i ∧ i ≤ N ∧ Hid (∃ H' ch' L' cl' o', IxW base b mh ml (.slice a1 N1 k1) (putZ A n) H' ch' L' cl' o' wr ∧ Stp (fun _ => True) o o' w wr ∧ AddIn n (ps.take i) H L H' L')) (fun i' _ => N - (RowKit.intOf i').toNat)
  case atStart =>
    refine ⟨0, rfl, Nat.zero_le _, Lib.hid ?_⟩
    rw [← hW2]
    exact ⟨H, ch, L, cl, o1, II.out, S2.out, by rw [List.take_zero]; exact AddIn.zero n H L⟩
  case round =>
    obtain ⟨i, rfl, hi, hst⟩ := hrel
    obtain ⟨H1, ch1, L1, cl1, o2, I, S, Ad⟩ := hst.out
    clear hst hW2
    by_cases hlt : i < N
    · obtain ⟨p, hp⟩ : ∃ p, ps[i]? = some p := ⟨_, List.getElem?_eq_getElem (by have := HNh.out; omega)⟩
      obtain ⟨rfl, hsw⟩ := HSG.out (by have := HNh.out; omega)
      have hoS : o sg = none := HSO.out sg rfl
      have blk : wr.heap[sg]? = w.heap[sg]? := S.block' hoS hsw
      obtain ⟨pa, pb⟩ := prc_at ps i p hp
      have u0 : wr.cell? ⟨sg, so + i * 2, none⟩ = some (.string (bs p.n)) := (World.cell?_of_block (a := ⟨sg, so + i * 2, none⟩) blk).trans ((HSC.out (i * 2) (by have := HNh.out; omega)).trans pa)
      have u1 : wr.cell? ⟨sg, so + i * 2 + 1, none⟩ = some (.string (bs p.v)) := (World.cell?_of_block (a := ⟨sg, so + i * 2 + 1, none⟩) blk).trans ((HSC.out (i * 2 + 1) (by have := HNh.out; omega)).trans pb)
      have hsz : sg < wr.heap.size := Nat.lt_of_lt_of_le hsw S.turn.size
      obtain ⟨P, hP⟩ : ∃ P : Obj, P = .cells #[.string (bs p.n), .string (bs p.v)] 58 := ⟨_, rfl⟩
      have hu1 : ∀ x y, Up (getH H1 x y) ∧ (getH H1 x y).length ≤ 99999 := fun x y => by
        have h1 := hu x y
        rw [Ad.get]
        split
        · exact ⟨putZ_up _ _ h1.1, by have := putZ_len (getH H x y) n; omega⟩
        · exact ⟨h1.1, by omega⟩
      have hg1 : ∀ m, (getL L1 m).length ≤ 99999 := fun m => by
        have h1 := hg m
        rw [Ad.lab]
        split
        · rw [List.length_append, List.length_take]; omega
        · omega
      have AP := Lib.hid (addp_any base b mh ml ch1 cl1 (.slice a1 N1 k1) (putZ A n) H1 L1 o2 n p (wr.alloc P) (I.other ((Stp.refl (fun _ => False) o2 wr).alloc P) (fun _ => id)) hu1 hg1)
      have hnp : p ∉ ps.take i := fun hm => by
        obtain ⟨j, hj⟩ := List.getElem?_of_mem hm
        rw [List.getElem?_take] at hj
        split at hj
        · rename_i hji
          have := (List.getElem?_inj (i := j) (j := i) (by have := (List.getElem?_eq_some_iff.1 hj).1; omega) hps).1 (hj.trans hp.symm)
          omega
        · cases hj
      have htk : ps.take (i + 1) = ps.take i ++ [p] := by rw [List.take_add_one, hp]; rfl
      have HT := Lib.hid htk
      have HNP := Lib.hid hnp
      have SA := Lib.hid (S.alloc P)
      have AD := Lib.hid Ad
      rw [hP] at AP SA
      have hlt' : (i : Int) < N := by omega
      clear hP P hu1 hg1 hnp htk I S Ad pa pb blk hoS hp
      go_wp2_with fail
      refine AP.out.mono ?_
      rintro e w3 ⟨rfl, H2, ch2, L2, cl2, o3, I3, S3, PI⟩
      have FF := Lib.hid (show ∃ H' ch' L' cl' o', IxW base b mh ml (.slice a1 N1 k1) (putZ A n) H' ch' L' cl' o' w3 ∧ Stp (fun _ => True) o o' w w3 ∧ AddIn n (ps.take (i + 1)) H L H' L' from ⟨H2, ch2, L2, cl2, o3, I3, SA.out.trans (S3.mono fun _ _ => trivial), by rw [HT.out]; exact AD.out.step PI HNP.out (hn _ _)⟩)
      have HLT := Lib.hid hlt
      clear I3 S3 PI u0 u1 hn hu hg hsw hsz hi hpl hps hAl hlt hlt' c0 c01 f01 AP SA AD HT HNP
      go_wp2
      have hlt := HLT.out
      have hw2 : wrap64 ((i : Int) + 1) = ((i + 1 : Nat) : Int) := by unfold wrap64; omega
      rw [hw2]
      refine ⟨⟨i + 1, rfl, hlt, FF⟩, ?_⟩
      show N - ((i + 1 : Nat) : Int).toNat < N - ((i : Nat) : Int).toNat
      rw [Int.toNat_natCast, Int.toNat_natCast]
      omega
    · obtain rfl : i = N := by omega
      have FF := Lib.hid (show ∃ H' ch' L' cl' o', IxW base b mh ml (.slice a1 N1 k1) (putZ A n) H' ch' L' cl' o' wr ∧ Stp (fun _ => True) o o' w wr ∧ AddIn n ps H L H' L' from ⟨H1, ch1, L1, cl1, o2, I, S, by have := Ad; rw [HNh.out, List.take_length] at this; exact this⟩)
      have hlt' : ¬ (i : Int) < i := by omega
      clear I S Ad
      go_wp2
      go_end0
      exact ⟨rfl, _, FF.out⟩
end Go.Proofs.YteheojiokbdgmaaGreatDoor

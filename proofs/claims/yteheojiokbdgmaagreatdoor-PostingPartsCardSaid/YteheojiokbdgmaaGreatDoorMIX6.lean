/- Layer 12: Drop of a series, whatever else is in the index. Layer 12: the first series; the first known answers. -/
import Derived.Test.YteheojiokbdgmaaGreatDoorMIX4
import Derived.Test.YteheojiokbdgmaaGreatDoorMK5
namespace Go.Proofs.YteheojiokbdgmaaGreatDoor
open Go.RowKit Go.Lib

/-- What a series' first labels leave of entries when they go. -/
structure DropIn (n : Int) (ps : List Pr) (H H' : List HEn) : Prop where
  get : ∀ x y, getH H' x y = if (⟨x, y⟩ : Pr) ∈ ps then outZ (getH H x y) n else getH H x y
  full : Full H → Full H'
theorem DropIn.zero (n : Int) (H : List HEn) : DropIn n [] H H := ⟨fun x y => by simp, id⟩
theorem DropIn.step {n : Int} {ps : List Pr} {p : Pr} {H H1 H2 : List HEn} (a : DropIn n ps H H1) (s : PairOut n p H1 H2) (hp : p ∉ ps) : DropIn n (ps ++ [p]) H H2 := by
  have hg : getH H1 p.n p.v = getH H p.n p.v := by rw [a.get, if_neg hp]
  refine ⟨fun x y => ?_, fun F => s.full (a.full F)⟩
  rw [s.get]
  by_cases e : x = p.n ∧ y = p.v
  · obtain ⟨rfl, rfl⟩ := e
    rw [if_pos ⟨rfl, rfl⟩, if_pos (by simp), hg]
  · have hne : (⟨x, y⟩ : Pr) ≠ p := fun h => e (by rw [← h]; exact ⟨rfl, rfl⟩)
    rw [if_neg e, a.get]
    by_cases h2 : (⟨x, y⟩ : Pr) ∈ ps
    · rw [if_pos h2, if_pos (by simp [h2])]
    · rw [if_neg h2, if_neg (by simp [h2, hne])]
theorem getL_del {L : List LEn} (hn : (L.map LEn.n).Nodup) (n m : Int) : getL (delK LEn.n n L) m = if m = n then [] else getL L m := by
  unfold getL
  rw [lookK_del LEn.n hn]
  by_cases e : m = n
  · rw [if_pos e, if_pos e]; rfl
  · rw [if_neg e, if_neg e]
theorem look_of_get {H : List HEn} {x y : List UInt8} {n : Int} (h : n ∈ getH H x y) : ∃ k, lookK HEn.x x H = some k := by
  unfold getH at h
  rcases e : lookK HEn.x x H with _ | k
  · rw [e] at h; cases h
  · exact ⟨k, rfl⟩
theorem take_out {ps : List Pr} {i : Nat} {p : Pr} (h : ps.Nodup) (hp : ps[i]? = some p) : p ∉ ps.take i := fun hm => by
  obtain ⟨j, hj⟩ := List.getElem?_of_mem hm
  rw [List.getElem?_take] at hj
  split at hj
  · rename_i hji
    have := (List.getElem?_inj (i := j) (j := i) (by have := (List.getElem?_eq_some_iff.1 hj).1; omega) h).1 (hj.trans hp.symm)
    omega
  · cases hj

set_option maxHeartbeats 2000000 in
set_option maxRecDepth 100000 in
theorem drop_any (base b mh ml ch cl : Nat) (va : Value) (A : List Int) (H : List HEn) (L : List LEn) (o : Own) (n : Int) (sv : Value) (w : World) (h : IxW base b mh ml va A H ch L cl o w)
    (hA : Up A) (hAl : A.length ≤ 99999) (hps : (getL L n).Nodup) (hpl : (getL L n).length ≤ 1000) (hu : ∀ x y, Up (getH H x y) ∧ (getH H x y).length ≤ 90000) (hm : ∀ p ∈ getL L n, n ∈ getH H p.n p.v) :
    Calls Tryz.prog 22 #[.pointer (some ⟨b, 0, none⟩), .int .i64 n, sv] w fun e w' => e = .returned (.tuple #[]) ∧ ∃ va' H' ch' L' cl' o', IxW base b mh ml va' (outZ A n) H' ch' L' cl' o' w' ∧ Stp (fun _ => True) o o' w w' ∧ DropIn n (getL L n) H H' ∧ ∀ m, getL L' m = if m = n then [] else getL L m := by
  have hbw := h.lt_b
  have c0 : w.cell? ⟨b, 0, none⟩ = some va := Lib.cell_of_heap h.box 0
  have C := Lib.hid (without_any base va A n w h.all.1 hA (by omega))
  obtain ⟨a0, k0, rfl⟩ := h.all.1.slice
  obtain ⟨ps, hpe⟩ : ∃ ps, ps = getL L n := ⟨_, rfl⟩
  rw [← hpe] at hps hpl hm
  obtain ⟨N, hN⟩ : ∃ N, N = ps.length := ⟨_, rfl⟩
  obtain ⟨NA, hNA⟩ : ∃ NA, NA = A.length := ⟨_, rfl⟩
  have HI := Lib.hid h
  have HNh := Lib.hid hN
  have HPE := Lib.hid hpe
  have hNb : N ≤ 1000 := by omega
  rw [← hNA] at C c0
  rw [← hpe]
  have HNA := Lib.hid hNA
  clear h hN hNA hA hpe
  go_enter Tryz.func22, Tryz.ntmps22
  go_wp2_with fail
  refine C.out.mono ?_
  rintro e w1 hLW
  have h := HI.out
  obtain ⟨v1, o1, rfl, s1, sl1⟩ := hLW.own (by rw [HNA.out]; exact h.all) h.lt
  obtain ⟨a1, k1, e1⟩ := sl1.1.slice
  obtain ⟨N1, hN1⟩ : ∃ N1, N1 = (outZ A n).length := ⟨_, rfl⟩
  rw [← hN1] at e1
  subst e1
  have ib1 := (s1.block h.ob nofun hbw).trans h.box
  have c01 : w1.cell? ⟨b, 0, none⟩ = some (.slice a0 NA k0) := by rw [Lib.cell_of_heap ib1 0, HNA.out]; rfl
  have f01 : w1.frozen? ⟨b, 0, none⟩ = false := Lib.frozen_of_heap ib1 0
  obtain ⟨W2, hW2⟩ : ∃ W2, W2 = w1.setCell ⟨b, 0, none⟩ (.slice a1 N1 k1) := ⟨_, rfl⟩
  have s2 : Stp (fun u => u = Tag.box) o1 o1 w1 W2 := by rw [hW2]; exact Stp.one (s1.keep _ _ h.ob) ((Turn.refl _ w1).setCell ⟨b, 0, none⟩ _ rfl)
  have bx : W2.heap[b]? = some (.cells #[.slice a1 N1 k1, .map (some mh), .map (some ml)] 70) := by
    have := heap_setCell_same w1 b 0 _ _ (.slice a1 N1 k1) ib1
    rw [hW2, this]; rfl
  have s12 := (s1.mono (T' := fun t => t = .all ∨ t = .box) (fun _ => .inl)).trans (s2.mono fun _ => .inr)
  have I2 := h.setAll s12 (fun _ => id) bx (sl1.step s2 nofun)
  obtain ⟨v5, hv5, sl5⟩ := I2.labv n
  rw [← HPE.out] at sl5
  have hl5 := lkL ml cl n I2.mapL
  rw [hv5] at hl5
  obtain ⟨a5, c5, e5⟩ := sl5.1.slice
  rw [← HNh.out] at e5
  subst e5
  have d2 : W2.cell? ⟨b, 2, none⟩ = some (.map (some ml)) := Lib.cell_of_heap bx 2
  have II := Lib.hid I2
  have SL := Lib.hid sl5
  have S2 := Lib.hid (s12.mono (T' := fun t => ∀ m, t ≠ .lab m) (by rintro t (rfl | rfl) m <;> nofun))
  rw [hW2] at hl5 d2
  clear hLW s1 s2 s12 sl1 bx ib1 I2 h C hN1 sl5 hv5
  go_wp2_with fail
  go_loopw [24] (fun i' wr => ∃ i : Nat, i' = .int .i64 i ∧ i ≤ N ∧ Hid (∃ H' ch' o', IxW base b mh ml (.slice a1 N1 k1) (outZ A n) H' ch' L cl o' wr ∧ Stp (fun t => ∀ m, t ≠ .lab m) o1 o' W2 wr ∧ DropIn n (ps.take i) H H')) (fun i' _ => N - (RowKit.intOf i').toNat)
  case atStart =>
    refine ⟨0, rfl, Nat.zero_le _, Lib.hid ?_⟩
    rw [← hW2]
    exact ⟨H, ch, o1, II.out, Stp.refl _ _ _, by rw [List.take_zero]; exact DropIn.zero n H⟩
  case round =>
    obtain ⟨i, rfl, hi, hst⟩ := hrel
    obtain ⟨H1, ch1, o2, I, S, Ad⟩ := hst.out
    clear hst hW2 hl5 d2
    by_cases hlt : i < N
    · obtain ⟨p, hp⟩ : ∃ p, ps[i]? = some p := ⟨_, List.getElem?_eq_getElem (by have := HNh.out; omega)⟩
      have slr := (SL.out.step S (fun e => e n rfl)).1
      obtain ⟨pa, pb⟩ := prc_at ps i p hp
      rcases slr.2 with ⟨h0, _⟩ | ⟨sg, so, cap, he, hbg, hsw, hnc, hcm, hfree, hcell⟩
      · have := HNh.out; omega
      injection he with ha hb hc
      subst ha
      have u0 : wr.cell? ⟨sg, so + i * 2, none⟩ = some (.string (bs p.n)) := (hcell (i * 2) (by have := HNh.out; omega)).trans pa
      have u1 : wr.cell? ⟨sg, so + i * 2 + 1, none⟩ = some (.string (bs p.v)) := (hcell (i * 2 + 1) (by have := HNh.out; omega)).trans pb
      have hnp := take_out hps hp
      have hin : n ∈ getH H1 p.n p.v := by rw [Ad.get, if_neg hnp]; exact hm p (List.mem_of_getElem? hp)
      obtain ⟨kk, hkk⟩ := look_of_get hin
      obtain ⟨P, hP⟩ : ∃ P : Obj, P = .cells #[.string (bs p.n), .string (bs p.v)] 58 := ⟨_, rfl⟩
      have hu1 : ∀ x y, Up (getH H1 x y) ∧ (getH H1 x y).length ≤ 99999 := fun x y => by
        have h1 := hu x y
        rw [Ad.get]
        split
        · exact ⟨outZ_up _ h1.1, by have := outZ_len (getH H x y) n; omega⟩
        · exact ⟨h1.1, by omega⟩
      have AP := Lib.hid (dropp_any base b mh ml ch1 cl (.slice a1 N1 k1) (outZ A n) H1 L o2 n p kk (wr.alloc P) (I.other ((Stp.refl (fun _ => False) o2 wr).alloc P) (fun _ => id)) hkk hu1)
      have htk : ps.take (i + 1) = ps.take i ++ [p] := by rw [List.take_add_one, hp]; rfl
      have HT := Lib.hid htk
      have HNP := Lib.hid hnp
      have SA := Lib.hid (S.alloc P)
      have AD := Lib.hid Ad
      rw [hP] at AP SA
      have hlt' : (i : Int) < N := by omega
      clear hP P hu1 hnp htk I S Ad pa pb hp slr hb hc hcell hfree hcm hnc hin hkk
      go_wp2_with fail
      refine AP.out.mono ?_
      rintro e w3 ⟨rfl, H2, ch2, o3, I3, S3, PI⟩
      have FF := Lib.hid (show ∃ H' ch' o', IxW base b mh ml (.slice a1 N1 k1) (outZ A n) H' ch' L cl o' w3 ∧ Stp (fun t => ∀ m, t ≠ .lab m) o1 o' W2 w3 ∧ DropIn n (ps.take (i + 1)) H H' from ⟨H2, ch2, o3, I3, SA.out.trans (S3.mono (by rintro t (rfl | ⟨x, rfl⟩ | ⟨x, y, rfl⟩) m <;> nofun)), by rw [HT.out]; exact AD.out.step PI HNP.out⟩)
      clear I3 S3 PI
      go_wp2
      refine ⟨⟨i + 1, rfl, hlt, FF⟩, ?_⟩
      show N - ((i : Int) + 1).toNat < N - ((i : Nat) : Int).toNat
      omega
    · obtain rfl : i = N := by omega
      have d3 : wr.cell? ⟨b, 2, none⟩ = some (.map (some ml)) := Lib.cell_of_heap I.box 2
      have hd := fun ty => dpL ml cl n I.mapL ty
      obtain ⟨s6, I6⟩ := I.delLab n
      obtain ⟨W6, hW6⟩ : ∃ W6, W6 = World.putMapJ wr ml ((delK LEn.n n L).map LEn.en) cl := ⟨_, rfl⟩
      rw [← hW6] at hd s6 I6
      have FF := Lib.hid (show ∃ va' H' ch' L' cl' o', IxW base b mh ml va' (outZ A n) H' ch' L' cl' o' W6 ∧ Stp (fun _ => True) o o' w W6 ∧ DropIn n ps H H' ∧ ∀ m, getL L' m = if m = n then [] else getL L m from
        ⟨_, H1, ch1, _, cl, o2, I6, ((S2.out.mono (fun _ _ => trivial)).trans (S.mono fun _ _ => trivial)).trans (s6.mono fun _ _ => trivial), by have := Ad; rw [HNh.out, List.take_length] at this; exact this, getL_del I.keysL n⟩)
      have hlt' : ¬ (i : Int) < i := by omega
      clear I S Ad s6 I6 hW6
      go_wp2
      go_end0
      exact ⟨rfl, FF.out⟩
end Go.Proofs.YteheojiokbdgmaaGreatDoor

namespace Go.Proofs.YteheojiokbdgmaaGreatDoor
open Go.RowKit Go.Lib

set_option maxHeartbeats 2000000 in
set_option maxRecDepth 100000 in
theorem add_first (b mh ml ch cl : Nat) (n : Int) (x y : List UInt8) (sv : Value) (w : World) (h : IxB b mh ml (.slice none 0 0) w) (hmh : MapIs mh [] ch w) (hml : MapIsJ ml [] cl w) (hs : Rd w 2 sv 1 (prc [⟨x, y⟩])) (hne : ∀ k, sv.ownBlock = some k → k ≠ b) :
    Calls Tryz.prog 21 #[.pointer (some ⟨b, 0, none⟩), .int .i64 n, sv] w fun e w' => e = .returned (.tuple #[]) ∧ ∃ va mi c1 c2 vl, w.heap.size ≤ mi ∧ IxB b mh ml va w' ∧ MapIs mh [⟨bs x, .map (some mi), ch⟩] c1 w' ∧ MapIs mi [⟨bs y, vl, 0⟩] c2 w' ∧ Nc w' va [n] ∧ Nc w' vl [n] ∧ Turn (fun k => k = b ∨ k = mh ∨ k = ml) w w' := by
  have hbw : b < w.heap.size := (Array.getElem?_eq_some_iff.1 h.box).1
  have hmw := mapIs_lt hmh
  have hlw := mapIsJ_lt hml
  have c0 : w.cell? ⟨b, 0, none⟩ = some (.slice none 0 0) := Lib.cell_of_heap h.box 0
  obtain ⟨_, sa, sc, sg, so, rfl, hsg, hsc⟩ := hs
  obtain ⟨rfl, hsw⟩ := hsg (by omega)
  have v0 : w.cell? ⟨sg, so, none⟩ = some (.string (bs x)) := hsc 0 (by omega)
  have v1 : w.cell? ⟨sg, so + 1, none⟩ = some (.string (bs y)) := hsc 1 (by omega)
  have hsb : sg ≠ b := hne sg rfl
  clear hsg hsc hne
  go_enter Tryz.func21, Tryz.ntmps21
  go_wp2_with fail
  refine (with_nil n _).mono ?_
  rintro e w1 ⟨va, rfl, s1, b1⟩
  obtain ⟨a1, k1, e1⟩ := s1.slice
  have e1 : va = .slice a1 1 k1 := e1
  subst e1
  have z1 := b1.size
  have c01 := (b1.cell (p := ⟨b, 0, none⟩) hbw).trans c0
  have f01 := (b1.frozen (p := ⟨b, 0, none⟩) hbw).trans (Lib.frozen_of_heap h.box 0)
  obtain ⟨W2, hW2⟩ : ∃ W2, W2 = w1.setCell ⟨b, 0, none⟩ (.slice a1 1 k1) := ⟨_, rfl⟩
  have t2 : Turn (fun k => k = b) w W2 := by rw [hW2]; exact (Turn.of_below b1).setCell _ _ rfl
  have bx : W2.heap[b]? = some (.cells #[.slice a1 1 k1, .map (some mh), .map (some ml)] 70) := by
    have := heap_setCell_same w1 b 0 _ _ (.slice a1 1 k1) ((b1.block b hbw).trans h.box)
    rw [hW2, this]; rfl
  have sa2 : Sl W2 w.heap.size 1 (.slice a1 1 k1) 1 (ic [n]) := by rw [hW2]; exact sl_else s1 _ _ (by show b < w.heap.size; exact hbw)
  have u0 := (t2.cell (p := ⟨sg, so, none⟩) hsw hsb).trans v0
  have u1 := (t2.cell (p := ⟨sg, so + 1, none⟩) hsw hsb).trans v1
  have h2 := hmh.turn t2 (fun e => h.bh e.symm)
  have l2 := hml.turn t2 (fun e => h.bl e.symm)
  have z2 := t2.size
  obtain ⟨P, hP⟩ : ∃ P : Obj, P = .cells #[.string (bs x), .string (bs y)] 58 := ⟨_, rfl⟩
  have tP : Turn (fun _ => False) W2 (W2.alloc P) := (Turn.refl _ W2).alloc P
  have zP : (W2.alloc P).heap.size = W2.heap.size + 1 := by simp
  have AP := Lib.hid (addp_first b mh ml ch cl (.slice a1 1 k1) n x y (W2.alloc P) ⟨(tP.block b (by omega) id).trans bx, h.bh, h.bl, h.hl⟩ (h2.turn tP id) (l2.turn tP id))
  rw [hP] at AP
  have HBX := Lib.hid bx
  have HSA := Lib.hid sa2
  have HT := Lib.hid t2
  have hsz2 : sg < W2.heap.size := by omega
  clear s1 b1 c0 v0 v1 h2 l2 sa2 bx
  go_wp2_with fail
  go_loopw [19] (fun i' wr => (i' = .int .i64 0 ∧ W2 = wr) ∨ (i' = .int .i64 1 ∧ Hid (∃ va mi c1 c2 vl, w.heap.size ≤ mi ∧ IxB b mh ml va wr ∧ MapIs mh [⟨bs x, .map (some mi), ch⟩] c1 wr ∧ MapIs mi [⟨bs y, vl, 0⟩] c2 wr ∧ Nc wr va [n] ∧ Nc wr vl [n] ∧ Turn (fun k => k = b ∨ k = mh ∨ k = ml) w wr))) (fun i' _ => 1 - (RowKit.intOf i').toNat)
  case atStart => exact .inl ⟨rfl, hW2⟩
  case round =>
    rcases hrel with ⟨rfl, rfl⟩ | ⟨rfl, hf⟩
    · clear hW2
      go_wp2_with fail
      refine AP.out.mono ?_
      rintro e w3 ⟨rfl, mi, c1, c2, vl, hmi, m1, m2, nl, t3⟩
      have tt : Turn (fun k => k = mh ∨ k = ml) W2 w3 := by
        rw [← hP] at t3
        exact ((Turn.refl _ W2).alloc P).trans t3
      have FF := Lib.hid (show ∃ va mi c1 c2 vl, w.heap.size ≤ mi ∧ IxB b mh ml va w3 ∧ MapIs mh [⟨bs x, .map (some mi), ch⟩] c1 w3 ∧ MapIs mi [⟨bs y, vl, 0⟩] c2 w3 ∧ Nc w3 va [n] ∧ Nc w3 vl [n] ∧ Turn (fun k => k = b ∨ k = mh ∨ k = ml) w w3 from
        ⟨.slice a1 1 k1, mi, c1, c2, vl, by rw [← hP] at hmi; omega, ⟨(tt.block b (by omega) (fun e => e.elim h.bh h.bl)).trans HBX.out, h.bh, h.bl, h.hl⟩, m1, m2, Nc.of_sl (base := w.heap.size) (sl_turnT HSA.out tt (fun k hk e => by have := (HSA.out.lt k hk).1; rcases e with e | e <;> omega)) (by simp), nl, (HT.out.mono (fun k hk => .inl hk)).trans (tt.mono (fun k hk => .inr hk))⟩)
      clear m1 m2 nl t3 tt
      go_wp2
      exact ⟨.inr ⟨rfl, FF.out⟩, by simp [RowKit.intOf]⟩
    · have HF := Lib.hid hf.out
      clear hf hW2
      go_wp2
      go_end0
      exact ⟨rfl, HF.out⟩
end Go.Proofs.YteheojiokbdgmaaGreatDoor

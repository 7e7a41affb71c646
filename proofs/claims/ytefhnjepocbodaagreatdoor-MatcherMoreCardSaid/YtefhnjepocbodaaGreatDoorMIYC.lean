/- Layer 12: an index of series that were told, and the document's answers: what both say. The library's contracts, laid over this program. -/
import Derived.Test.YtefhnjepocbodaaGreatDoorMIY9
import Derived.Shelf.Strings.IndexAnyAll
import Derived.Shelf.Strings.Count
import Derived.Shelf.Strings.Split
import Derived.Test.YtefhnjepocbodaaGreatDoorProg
namespace Go.Proofs.YtefhnjepocbodaaGreatDoor
open Go.RowKit Go.Lib
set_option linter.unusedVariables false

theorem encStr_bs (s : List UInt8) : Go.Proofs.encStr s = Value.string (bs s) := rfl
theorem texts_new {w w' : World} {xs l : List (List UInt8)} {e : Ending} (h : TextsN w xs e w') (hs : ∀ ss : List (List UInt8), ss.Perm xs → ss.mergeSort (fun x y => decide (x ≤ y)) = l) : NewS w l e w' := by
  obtain ⟨v, ss, rfl, hp, hrow, _, b⟩ := h
  have hl := hs ss hp
  have hlen : ss.length = l.length := by rw [← hl, List.length_mergeSort]
  refine ⟨v, rfl, ?_, b⟩
  rw [hl, hlen] at hrow
  exact Sl.of_owns hrow
/-- An index, and the series that it has: small ones. -/
structure Told (base b mh ml : Nat) (T : List Sr) (w : World) : Prop where
  ix : ∃ va A H ch L cl o, IxW base b mh ml va A H ch L cl o w ∧ Grown T A H L
  few : T.length ≤ 12
  small : ∀ s ∈ T, s.ps.length ≤ 10 ∧ (s.ps.map Pr.n).Nodup ∧ ∀ p ∈ s.ps, p.n.length ≤ 42 ∧ p.v.length ≤ 42
  nums : (T.map Sr.n).Nodup
theorem Told.on {base b mh ml : Nat} {T : List Sr} {w w' : World} (h : Told base b mh ml T w) (bl : Below w.heap.size w w') : Told base b mh ml T w' := by
  obtain ⟨va, A, H, ch, L, cl, o, I, G⟩ := h.ix
  exact ⟨⟨va, A, H, ch, L, cl, o, I.other (Stp.below (T := fun _ => False) bl) (fun _ => id), G⟩, h.few, h.small, h.nums⟩
section
variable {base b mh ml : Nat} {T : List Sr} {w : World}
theorem fold_small {β : Type} (f : List β → Int → Pr → List β) (hf : ∀ a n p, (f a n p).length ≤ a.length + 1) (h : Told base b mh ml T w) : (foldD f T).length ≤ 120 := by
  have h1 := foldD_len f hf T (fun s hs => (h.small s hs).1)
  have := h.few
  omega
theorem Told.bounds (h : Told base b mh ml T w) {va : Value} {A : List Int} {H : List HEn} {ch : Nat} {L : List LEn} {cl : Nat} {o : Own} (I : IxW base b mh ml va A H ch L cl o w) (G : Grown T A H L) :
    ((∀ a ∈ H, a.x.length ≤ maxLen) ∧ H.length ≤ 1000000 ∧ (∀ a ∈ H, ∀ e ∈ a.vs, e.y.length ≤ maxLen) ∧ (∀ a ∈ H, a.vs.length ≤ 1000000)) ∧
      (∀ ss : List (List UInt8), ss.Perm (H.map HEn.x) → ss.mergeSort (fun x y => decide (x ≤ y)) = foldD fN T) ∧ ∀ x, ∀ ss : List (List UInt8), ss.Perm (valsH H x) → ss.mergeSort (fun x y => decide (x ≤ y)) = foldD (fV x) T := by
  have hv : ∀ h ∈ H, (h.vs.map VEn.y).Nodup := fun k hk => (I.inner k hk).2.2.2.1
  have hmn := mem_namesH G.full I.keysH hv
  have hmv := mem_valsH G.full I.keysH hv
  have hN : ∀ ss : List (List UInt8), ss.Perm (H.map HEn.x) → ss.mergeSort (fun x y => decide (x ≤ y)) = foldD fN T := fun ss hp =>
    sorted_is hp I.keysH (fN_spec T).1 fun x => by
      rw [hmn, (fN_spec T).2]
      constructor
      · rintro ⟨y, hy⟩
        obtain ⟨s, hs, hp⟩ := (G.some x y).1 hy
        exact ⟨s, hs, y, hp⟩
      · rintro ⟨s, hs, y, hp⟩
        exact ⟨y, (G.some x y).2 ⟨s, hs, hp⟩⟩
  have hnd : ∀ x, (valsH H x).Nodup := fun x => by
    unfold valsH
    cases e : lookK HEn.x x H with
    | none => exact List.nodup_nil
    | some k => exact hv k (lookK_mem HEn.x e).1
  have hV : ∀ x, ∀ ss : List (List UInt8), ss.Perm (valsH H x) → ss.mergeSort (fun x y => decide (x ≤ y)) = foldD (fV x) T := fun x ss hp =>
    sorted_is hp (hnd x) (fV_spec x T).1 fun y => by rw [hmv, (fV_spec x T).2, G.some]
  have hval : ∀ k ∈ H, valsH H k.x = k.vs.map VEn.y := fun k hk => by unfold valsH; rw [lookK_of_mem HEn.x I.keysH hk]; rfl
  refine ⟨⟨fun k hk => ?_, ?_, fun k hk e he => ?_, fun k hk => ?_⟩, hN, hV⟩
  · obtain ⟨y, hy⟩ := (hmn k.x).1 (List.mem_map_of_mem hk)
    obtain ⟨s, hs, hp⟩ := (G.some k.x y).1 hy
    have := ((h.small s hs).2.2 _ hp).1
    unfold maxLen; simp only at this; omega
  · have h1 := congrArg List.length (hN _ (List.Perm.refl _))
    rw [List.length_mergeSort, List.length_map] at h1
    have := fold_small fN fN_len h
    omega
  · have h1 : e.y ∈ valsH H k.x := by rw [hval k hk]; exact List.mem_map_of_mem he
    obtain ⟨s, hs, hp⟩ := (G.some k.x e.y).1 ((hmv k.x e.y).1 h1)
    have := ((h.small s hs).2.2 _ hp).2
    unfold maxLen; simp only at this; omega
  · have h1 := congrArg List.length (hV k.x _ (List.Perm.refl _))
    rw [List.length_mergeSort, hval k hk, List.length_map] at h1
    have := fold_small (fV k.x) (fV_len k.x) h
    omega
theorem told_get (h : Told base b mh ml T w) (x y : List UInt8) :
    Calls Tryz.prog 71 #[.pointer (some ⟨b, 0, none⟩), .string (bs x), .string (bs y)] w (NewN w (foldD (fG x y) T)) := by
  obtain ⟨va, A, H, ch, L, cl, o, I, G⟩ := h.ix
  rw [← G.get_is x y]
  exact get_any _ _ _ _ _ _ _ A H L o x y w I (by have := G.glen x y; have := h.few; omega)
theorem told_values (h : Told base b mh ml T w) (x : List UInt8) :
    Calls Tryz.prog 70 #[.pointer (some ⟨b, 0, none⟩), .string (bs x)] w (NewS w (foldD (fV x) T)) := by
  obtain ⟨va, A, H, ch, L, cl, o, I, G⟩ := h.ix
  obtain ⟨⟨h1, h2, h3, h4⟩, h5, h6⟩ := h.bounds I G
  refine (values_any _ _ _ _ _ _ _ A H L o x w I h3 h4).mono ?_
  exact fun e w' ht => texts_new ht (h6 x)
/-- All numbers, put one by one. -/
def numsT (T : List Sr) : List Int := T.foldl (fun a s => putZ a s.n) []
theorem numsT_snoc (T : List Sr) (s : Sr) : numsT (T ++ [s]) = putZ (numsT T) s.n := by simp [numsT, List.foldl_append]
theorem numsT_spec (T : List Sr) : Up (numsT T) ∧ ∀ m, m ∈ numsT T ↔ ∃ s ∈ T, s.n = m := by
  have go : ∀ (T : List Sr) (a : List Int), Up a → Up (T.foldl (fun a s => putZ a s.n) a) ∧ ∀ m, m ∈ T.foldl (fun a s => putZ a s.n) a ↔ m ∈ a ∨ ∃ s ∈ T, s.n = m := by
    intro T
    induction T with
    | nil => exact fun a h => ⟨h, fun m => by simp⟩
    | cons s T ih =>
      intro a h
      obtain ⟨i2, m2⟩ := ih _ (putZ_up a s.n h)
      refine ⟨i2, fun m => ?_⟩
      rw [List.foldl_cons, m2, putZ_mem]
      simp only [List.mem_cons, exists_eq_or_imp]
      constructor
      · rintro ((h | h) | h)
        · exact .inr (.inl h.symm)
        · exact .inl h
        · exact .inr (.inr h)
      · rintro (h | h | h)
        · exact .inl (.inr h)
        · exact .inl (.inl h.symm)
        · exact .inr h
  obtain ⟨i1, m1⟩ := go T [] up_nil
  refine ⟨i1, fun m => ?_⟩
  have := m1 m
  simp only [List.not_mem_nil, false_or] at this
  exact this
theorem numsT_len (T : List Sr) : (numsT T).length ≤ T.length := by
  have go : ∀ (T : List Sr) (a : List Int), (T.foldl (fun a s => putZ a s.n) a).length ≤ a.length + T.length := by
    intro T
    induction T with
    | nil => exact fun a => by simp
    | cons s T ih =>
      intro a
      have h1 := ih (putZ a s.n)
      have h2 := putZ_len a s.n
      rw [List.foldl_cons, List.length_cons]; omega
  have := go T []
  rw [List.length_nil, Nat.zero_add] at this
  exact this
theorem told_all (h : Told base b mh ml T w) :
    Calls Tryz.prog 23 #[.pointer (some ⟨b, 0, none⟩)] w (NewN w (numsT T)) := by
  obtain ⟨va, A, H, ch, L, cl, o, I, G⟩ := h.ix
  have e : numsT T = A := up_unique _ _ (numsT_spec T).1 G.up fun m => by rw [(numsT_spec T).2, G.mem]
  rw [e]
  exact all_any12 _ _ _ _ _ _ _ A H L o w I (by have := G.len; have := h.few; omega)
end
theorem sortS_mem (x : Pr) : ∀ l : List Pr, x ∈ sortS l → x ∈ l := by
  intro l h
  exact (sortS_perm l).mem_iff.1 h
theorem growN_nums (zs : List Oi) : ∀ i, i ≤ 12 → ((growN zs i).map Sr.n).Nodup
  | 0, _ => List.nodup_nil
  | i + 1, h => by
    show ((growN zs i ++ _).map Sr.n).Nodup
    rw [List.map_append, List.nodup_append]
    refine ⟨growN_nums zs i (by omega), ?_, fun x hx y hy e => ?_⟩
    · cases zs[i]? with
      | none => exact List.nodup_nil
      | some z => simp only; split <;> simp
    · obtain ⟨s, hs, rfl⟩ := List.mem_map.1 hx
      have hn := growN_new zs (show i < 12 by omega) s hs
      obtain ⟨s2, hs2, rfl⟩ := List.mem_map.1 hy
      cases e2 : zs[i]? with
      | none => rw [e2] at hs2; cases hs2
      | some z =>
        rw [e2] at hs2
        simp only at hs2
        split at hs2
        · rw [List.mem_singleton] at hs2
          subst hs2
          exact hn e
        · cases hs2
/-- What Grow made. -/
theorem gst_told {w : World} {b mh ml : Nat} {zs : List Oi} {tv : Value} {W : World} (h : Gst w b mh ml zs zs.length tv W) (hl : zs.length ≤ 12) (hz : ∀ z ∈ zs, z.ds.length ≤ 10) :
    ∃ T qs, Told w.heap.size b mh ml T W ∧ TdR W tv qs ∧ qs.map Sx.sr = T ∧ Below w.heap.size w W := by
  obtain ⟨va, A, H, ch, L, cl, o, qs, I, G, D, hq, B⟩ := h
  have hsm : ∀ s ∈ growN zs zs.length, s.ps.length ≤ 10 ∧ (s.ps.map Pr.n).Nodup ∧ ∀ p ∈ s.ps, p.n.length ≤ 42 ∧ p.v.length ≤ 42 := fun s hs => by
    obtain ⟨j, z, _, h2, rfl⟩ := growN_at zs _ s hs
    refine ⟨tellOf_len z (hz z (List.mem_of_getElem? h2)), uniqN_names _, fun p hp => ?_⟩
    have h3 := sortS_mem p _ (uniqN_mem hp)
    unfold f42 at h3
    obtain ⟨x, _, rfl⟩ := List.mem_map.1 h3
    simp only [List.length_take]
    omega
  have hfew : (growN zs zs.length).length ≤ 12 := by have := growN_len zs zs.length; omega
  refine ⟨growN zs zs.length, qs, ⟨⟨va, A, H, ch, L, cl, o, I, G⟩, hfew, hsm, growN_nums zs _ hl⟩, D.rd ?_ fun q hqm => ?_, hq, B⟩
  · have := congrArg List.length hq
    rw [List.length_map] at this
    omega
  · have : q.sr ∈ growN zs zs.length := by rw [← hq]; exact List.mem_map_of_mem hqm
    exact (hsm _ this).1
end Go.Proofs.YtefhnjepocbodaaGreatDoor

namespace Go.Proofs.YtefhnjepocbodaaGreatDoor
open Go.Shelf Go.Proofs
def anyIdx_ren : Go.Shelf.Ren := ⟨fun | 153 => 56 | 152 => 80 | 226 => 81 | 227 => 82 | 228 => 83 | 137 => 101 | 119 => 102 | 224 => 103 | 225 => 104 | 217 => 107 | 266 => 130 | n => n, fun | 9 => 9 | 3 => 3 | 4 => 4 | 5 => 5 | 21 => 21 | 117 => 128 | 116 => 127 | 0 => 0 | 46 => 118 | 124 => 140 | n => n, fun | n => n⟩
theorem anyIdx : Go.Proofs.Lays.n153 Tryz.prog anyIdx_ren := {
  mixed := by kernel_rfl
  f119 := Tryz.func102.trans (congrArg some (by kernel_rfl))
  f137 := Tryz.func101.trans (congrArg some (by kernel_rfl))
  f152 := Tryz.func80.trans (congrArg some (by kernel_rfl))
  f153 := Tryz.func56.trans (congrArg some (by kernel_rfl))
  f217 := Tryz.func107.trans (congrArg some (by kernel_rfl))
  f224 := Tryz.func103.trans (congrArg some (by kernel_rfl))
  f225 := Tryz.func104.trans (congrArg some (by kernel_rfl))
  f226 := Tryz.func81.trans (congrArg some (by kernel_rfl))
  f227 := Tryz.func82.trans (congrArg some (by kernel_rfl))
  f228 := Tryz.func83.trans (congrArg some (by kernel_rfl))
  f266 := Tryz.func130.trans (congrArg some (by kernel_rfl))
  t0 := Tryz.underlying0
  a0 := Tryz.isAgg0
  z0 := Tryz.sizeOf0
  v0 := Tryz.zeroValue0
  t3 := Tryz.underlying3
  a3 := Tryz.isAgg3
  z3 := Tryz.sizeOf3
  v3 := Tryz.zeroValue3
  t4 := Tryz.underlying4
  a4 := Tryz.isAgg4
  z4 := Tryz.sizeOf4
  v4 := Tryz.zeroValue4
  t5 := Tryz.underlying5
  a5 := Tryz.isAgg5
  z5 := Tryz.sizeOf5
  v5 := Tryz.zeroValue5
  t9 := Tryz.underlying9
  a9 := Tryz.isAgg9
  z9 := Tryz.sizeOf9
  v9 := Tryz.zeroValue9
  t21 := Tryz.underlying21
  a21 := Tryz.isAgg21
  z21 := Tryz.sizeOf21
  v21 := Tryz.zeroValue21
  t46 := Tryz.underlying118
  a46 := Tryz.isAgg118
  z46 := Tryz.sizeOf118
  v46 := Tryz.zeroValue118
  t116 := Tryz.underlying127
  a116 := Tryz.isAgg127
  z116 := Tryz.sizeOf127
  t117 := Tryz.underlying128
  a117 := Tryz.isAgg128
  z117 := Tryz.sizeOf128
  v117 := Tryz.zeroValue128
  t124 := Tryz.underlying140
  a124 := Tryz.isAgg140
  z124 := Tryz.sizeOf140
  v124 := Tryz.zeroValue140 }
def anyHas_ren : Go.Shelf.Ren := ⟨fun | 150 => 86 | 153 => 56 | 152 => 80 | 226 => 81 | 227 => 82 | 228 => 83 | 137 => 101 | 119 => 102 | 224 => 103 | 225 => 104 | 217 => 107 | 266 => 130 | n => n, fun | 9 => 9 | 4 => 4 | 3 => 3 | 5 => 5 | 21 => 21 | 117 => 128 | 116 => 127 | 0 => 0 | 46 => 118 | 124 => 140 | n => n, fun | n => n⟩
theorem anyHas : Go.Proofs.Lays.n150 Tryz.prog anyHas_ren := {
  mixed := by kernel_rfl
  f119 := Tryz.func102.trans (congrArg some (by kernel_rfl))
  f137 := Tryz.func101.trans (congrArg some (by kernel_rfl))
  f150 := Tryz.func86.trans (congrArg some (by kernel_rfl))
  f152 := Tryz.func80.trans (congrArg some (by kernel_rfl))
  f153 := Tryz.func56.trans (congrArg some (by kernel_rfl))
  f217 := Tryz.func107.trans (congrArg some (by kernel_rfl))
  f224 := Tryz.func103.trans (congrArg some (by kernel_rfl))
  f225 := Tryz.func104.trans (congrArg some (by kernel_rfl))
  f226 := Tryz.func81.trans (congrArg some (by kernel_rfl))
  f227 := Tryz.func82.trans (congrArg some (by kernel_rfl))
  f228 := Tryz.func83.trans (congrArg some (by kernel_rfl))
  f266 := Tryz.func130.trans (congrArg some (by kernel_rfl))
  t0 := Tryz.underlying0
  a0 := Tryz.isAgg0
  z0 := Tryz.sizeOf0
  v0 := Tryz.zeroValue0
  t3 := Tryz.underlying3
  a3 := Tryz.isAgg3
  z3 := Tryz.sizeOf3
  v3 := Tryz.zeroValue3
  t4 := Tryz.underlying4
  a4 := Tryz.isAgg4
  z4 := Tryz.sizeOf4
  v4 := Tryz.zeroValue4
  t5 := Tryz.underlying5
  a5 := Tryz.isAgg5
  z5 := Tryz.sizeOf5
  v5 := Tryz.zeroValue5
  t9 := Tryz.underlying9
  a9 := Tryz.isAgg9
  z9 := Tryz.sizeOf9
  v9 := Tryz.zeroValue9
  t21 := Tryz.underlying21
  a21 := Tryz.isAgg21
  z21 := Tryz.sizeOf21
  v21 := Tryz.zeroValue21
  t46 := Tryz.underlying118
  a46 := Tryz.isAgg118
  z46 := Tryz.sizeOf118
  v46 := Tryz.zeroValue118
  t116 := Tryz.underlying127
  a116 := Tryz.isAgg127
  z116 := Tryz.sizeOf127
  t117 := Tryz.underlying128
  a117 := Tryz.isAgg128
  z117 := Tryz.sizeOf128
  v117 := Tryz.zeroValue128
  t124 := Tryz.underlying140
  a124 := Tryz.isAgg140
  z124 := Tryz.sizeOf140
  v124 := Tryz.zeroValue140 }
def cnt_ren : Go.Shelf.Ren := ⟨fun | 138 => 106 | 195 => 128 | 218 => 129 | 143 => 79 | 219 => 87 | 217 => 107 | 225 => 104 | 224 => 103 | 267 => 108 | 266 => 130 | 314 => 131 | n => n, fun | 9 => 9 | 3 => 3 | 4 => 4 | 5 => 5 | 0 => 0 | 46 => 118 | 146 => 161 | 51 => 150 | n => n, fun | 1 => 0 | n => n⟩
theorem cnt : Go.Proofs.Lays.n138 Tryz.prog cnt_ren := {
  mixed := by kernel_rfl
  f138 := Tryz.func106.trans (congrArg some (by kernel_rfl))
  f143 := Tryz.func79.trans (congrArg some (by kernel_rfl))
  f195 := Tryz.func128.trans (congrArg some (by kernel_rfl))
  f217 := Tryz.func107.trans (congrArg some (by kernel_rfl))
  f218 := Tryz.func129.trans (congrArg some (by kernel_rfl))
  f219 := Tryz.func87.trans (congrArg some (by kernel_rfl))
  f224 := Tryz.func103.trans (congrArg some (by kernel_rfl))
  f225 := Tryz.func104.trans (congrArg some (by kernel_rfl))
  f266 := Tryz.func130.trans (congrArg some (by kernel_rfl))
  f267 := Tryz.func108.trans (congrArg some (by kernel_rfl))
  f314 := Tryz.func131.trans (congrArg some (by kernel_rfl))
  t0 := Tryz.underlying0
  a0 := Tryz.isAgg0
  z0 := Tryz.sizeOf0
  v0 := Tryz.zeroValue0
  t3 := Tryz.underlying3
  a3 := Tryz.isAgg3
  z3 := Tryz.sizeOf3
  v3 := Tryz.zeroValue3
  t4 := Tryz.underlying4
  a4 := Tryz.isAgg4
  z4 := Tryz.sizeOf4
  v4 := Tryz.zeroValue4
  t5 := Tryz.underlying5
  a5 := Tryz.isAgg5
  z5 := Tryz.sizeOf5
  v5 := Tryz.zeroValue5
  t9 := Tryz.underlying9
  a9 := Tryz.isAgg9
  z9 := Tryz.sizeOf9
  v9 := Tryz.zeroValue9
  t46 := Tryz.underlying118
  a46 := Tryz.isAgg118
  z46 := Tryz.sizeOf118
  v46 := Tryz.zeroValue118
  t51 := Tryz.underlying150
  a51 := Tryz.isAgg150
  z51 := Tryz.sizeOf150
  v51 := Tryz.zeroValue150
  t146 := Tryz.underlying161
  a146 := Tryz.isAgg161
  z146 := Tryz.sizeOf161
  v146 := Tryz.zeroValue161
  g1 := by kernel_rfl }
def splt_ren : Go.Shelf.Ren := ⟨fun | 146 => 59 | 221 => 85 | 268 => 105 | 138 => 106 | 143 => 79 | 195 => 128 | 197 => 78 | 218 => 129 | 219 => 87 | 260 => 100 | 217 => 107 | 225 => 104 | 224 => 103 | 267 => 108 | 266 => 130 | 314 => 131 | n => n, fun | 9 => 9 | 31 => 55 | 3 => 3 | 4 => 4 | 0 => 0 | 105 => 123 | 21 => 21 | 5 => 5 | 46 => 118 | 119 => 156 | 139 => 159 | 138 => 158 | 146 => 161 | 51 => 150 | n => n, fun | 1 => 0 | 3 => 1 | 4 => 2 | n => n⟩
theorem splt : Go.Proofs.Lays.n146 Tryz.prog splt_ren := {
  mixed := by kernel_rfl
  f138 := Tryz.func106.trans (congrArg some (by kernel_rfl))
  f143 := Tryz.func79.trans (congrArg some (by kernel_rfl))
  f146 := Tryz.func59.trans (congrArg some (by kernel_rfl))
  f195 := Tryz.func128.trans (congrArg some (by kernel_rfl))
  f197 := Tryz.func78.trans (congrArg some (by kernel_rfl))
  f217 := Tryz.func107.trans (congrArg some (by kernel_rfl))
  f218 := Tryz.func129.trans (congrArg some (by kernel_rfl))
  f219 := Tryz.func87.trans (congrArg some (by kernel_rfl))
  f221 := Tryz.func85.trans (congrArg some (by kernel_rfl))
  f224 := Tryz.func103.trans (congrArg some (by kernel_rfl))
  f225 := Tryz.func104.trans (congrArg some (by kernel_rfl))
  f260 := Tryz.func100.trans (congrArg some (by kernel_rfl))
  f266 := Tryz.func130.trans (congrArg some (by kernel_rfl))
  f267 := Tryz.func108.trans (congrArg some (by kernel_rfl))
  f268 := Tryz.func105.trans (congrArg some (by kernel_rfl))
  f314 := Tryz.func131.trans (congrArg some (by kernel_rfl))
  t0 := Tryz.underlying0
  a0 := Tryz.isAgg0
  z0 := Tryz.sizeOf0
  v0 := Tryz.zeroValue0
  t3 := Tryz.underlying3
  a3 := Tryz.isAgg3
  z3 := Tryz.sizeOf3
  v3 := Tryz.zeroValue3
  t4 := Tryz.underlying4
  a4 := Tryz.isAgg4
  z4 := Tryz.sizeOf4
  v4 := Tryz.zeroValue4
  t5 := Tryz.underlying5
  a5 := Tryz.isAgg5
  z5 := Tryz.sizeOf5
  v5 := Tryz.zeroValue5
  t9 := Tryz.underlying9
  a9 := Tryz.isAgg9
  z9 := Tryz.sizeOf9
  v9 := Tryz.zeroValue9
  t21 := Tryz.underlying21
  a21 := Tryz.isAgg21
  z21 := Tryz.sizeOf21
  v21 := Tryz.zeroValue21
  t31 := Tryz.underlying55
  a31 := Tryz.isAgg55
  z31 := Tryz.sizeOf55
  v31 := Tryz.zeroValue55
  t46 := Tryz.underlying118
  a46 := Tryz.isAgg118
  z46 := Tryz.sizeOf118
  v46 := Tryz.zeroValue118
  t51 := Tryz.underlying150
  a51 := Tryz.isAgg150
  z51 := Tryz.sizeOf150
  v51 := Tryz.zeroValue150
  t105 := Tryz.underlying123
  a105 := Tryz.isAgg123
  z105 := Tryz.sizeOf123
  v105 := Tryz.zeroValue123
  t119 := Tryz.underlying156
  a119 := Tryz.isAgg156
  z119 := Tryz.sizeOf156
  t138 := Tryz.underlying158
  a138 := Tryz.isAgg158
  z138 := Tryz.sizeOf158
  v138 := Tryz.zeroValue158
  t139 := Tryz.underlying159
  a139 := Tryz.isAgg159
  z139 := Tryz.sizeOf159
  v139 := Tryz.zeroValue159
  t146 := Tryz.underlying161
  a146 := Tryz.isAgg161
  z146 := Tryz.sizeOf161
  v146 := Tryz.zeroValue161
  g1 := by kernel_rfl
  g3 := by kernel_rfl
  g4 := by kernel_rfl }
end Go.Proofs.YtefhnjepocbodaaGreatDoor

/- Layer 6: slices that are only read; Check, Get. Layer 6: slices cloned; Make. Layer 6: Make; a list of pairs has one sorted spelling. Layer 6: a text's parts between two bytes: plain maths. The library's iterator over a text's parts (strings.SplitSeq at a text of one byte), walked: it keeps the rest of the text in a cell of its own. -/
import Derived.Test.YtfckgcckpfklaaaGreatDoorML3
import Derived.Test.YtfckgcckpfklaaaGreatDoorMRd
import Derived.IntWalk
import Derived.Test.YtfckgcckpfklaaaGreatDoorMCmp
import Derived.RangeFuncNested
import Derived.RangeFuncBound
import Derived.RangeFuncCalls
import Derived.RangeFuncLeaves
import Derived.Shelf.Abstract
import Derived.Shelf.RegionOpen
import Derived.WalkKit
import Derived.OwnWalkIn
import Derived.TacticsInMore
import Derived.LoopNIn
import Derived.LoopIn
namespace Go.Proofs.YtfckgcckpfklaaaGreatDoor
open Go.RowKit Go.Lib

theorem isval_any (l : List UInt8) (w : World) : Calls Tryz.prog 107 #[.string (bs l)] w fun e w' => e = .returned (.bool (valB l)) ∧ w = w' := by
  have hT := bs_toList
  have hz : (bs l).size = l.length := bs_size l
  by_cases h0 : l = []
  · subst h0
    go_enter Tryz.func107, Tryz.ntmps107
    go_wp2
    go_ret
    exact ⟨rfl, rfl⟩
  · have hb0 : (!l.isEmpty) = true := by simpa using h0
    have hb1 : l.isEmpty = false := by simpa using h0
    have HB := Lib.hid (show valB l = decide ((l.length : Int) ≤ 40) by
      unfold valB
      have h1 : 1 ≤ l.length := by
        cases l with
        | nil => exact absurd rfl h0
        | cons _ _ => simp
      rw [decide_eq_true h1, Bool.true_and]
      by_cases h : l.length ≤ 40
      · rw [decide_eq_true h, decide_eq_true (by omega)]
      · rw [decide_eq_false h, decide_eq_false (by omega)])
    clear h0
    go_enter Tryz.func107, Tryz.ntmps107
    go_wp2
    go_ret
    exact ⟨by rw [HB.out]; rfl, rfl⟩

/-- The error's number. -/
def cE (b : Bool) : Int := if b = true then 0 else 12

/-- The name ahead of pair i. -/
def prevN (ds : List Pr) (i : Nat) : Option (List UInt8) := match i with
  | 0 => none
  | i + 1 => (ds[i]?).map Pr.n

theorem less_lt : ∀ (a b : List UInt8), Op.bytesLess a b = true ↔ a < b
  | [], [] => by simp [Op.bytesLess]
  | [], _ :: _ => by simp [Op.bytesLess]
  | _ :: _, [] => by simp [Op.bytesLess]
  | x :: a, y :: b => by
    rw [Op.bytesLess, List.cons_lt_cons_iff]
    simp [less_lt a b]
theorem less_dec (a b : List UInt8) : Op.bytesLess a b = decide (a < b) := by
  rw [Bool.eq_iff_iff, less_lt, decide_eq_true_iff]

set_option maxHeartbeats 1000000 in
set_option maxRecDepth 100000 in
theorem check_any (v : Value) (ds : List Pr) (w : World) (h : Rd w 2 v ds.length (prc ds)) (hm : ds.length ≤ 1000000) :
    Calls Tryz.prog 89 #[v] w fun e w' => e = .returned (.int .i64 (cE (chk ds))) ∧ Below w.heap.size w w' := by
  have hT := bs_toList
  obtain ⟨_, a, cap, g, off, rfl, hg, hc⟩ := h
  obtain ⟨n, hn⟩ : ∃ n, n = ds.length := ⟨_, rfl⟩
  rw [← hn] at hg hc ⊢
  by_cases h1 : n < 1
  · have HK := Lib.hid (show chk ds = false by unfold chk; rw [decide_eq_false (by omega)]; rfl)
    rw [HK.out]
    clear hn hg hc
    go_enter Tryz.func89, Tryz.ntmps89
    go_wp2
    go_ret
    exact ⟨rfl, Below.refl _ _⟩
  · by_cases h8 : 8 < n
    · have HK := Lib.hid (show chk ds = false by unfold chk; rw [decide_eq_true (by omega), decide_eq_false (show ¬ ds.length ≤ 8 by omega)]; rfl)
      rw [HK.out]
      clear hn hg hc
      have h1' : ¬ (n : Int) < 1 := by omega
      have h8' : (8 : Int) < n := by omega
      go_enter Tryz.func89, Tryz.ntmps89
      go_wp2
      go_ret
      exact ⟨rfl, Below.refl _ _⟩
    · have HK := Lib.hid (show chk ds = chkR none ds by unfold chk; rw [decide_eq_true (by omega), decide_eq_true (by omega)]; simp)
      rw [HK.out]
      obtain ⟨rfl, hgl⟩ := hg (by omega)
      have HN := Lib.hid hn
      have HC := Lib.hid hc
      have h1' : ¬ (n : Int) < 1 := by omega
      have h8' : ¬ (8 : Int) < n := by omega
      have h8n : n ≤ 8 := by omega
      clear hn hg hc h1 h8 HK
      go_enter Tryz.func89, Tryz.ntmps89
      go_wp2_with fail
      go_loopw [15] (fun i' wr => ∃ (i : Nat), i' = .int .i64 i ∧ i ≤ n ∧ Hid (chkR none ds = chkR (prevN ds i) (ds.drop i)) ∧ Below w.heap.size w wr) (fun i' _ => n - (intOf i').toNat)
      case atStart => exact ⟨0, rfl, by omega, rfl, Below.refl _ _⟩
      case round =>
        obtain ⟨i, rfl, hi, hk, hb⟩ := hrel
        by_cases hlt : i < n
        · obtain ⟨x, hx⟩ : ∃ x, ds[i]? = some x := ⟨ds[i]'(by have := HN.out; omega), List.getElem?_eq_getElem (by have := HN.out; omega)⟩
          obtain ⟨v0, v1⟩ := prc_at ds i x hx
          have q0 := ((hb.cell (p := ⟨g, off + i * 2, none⟩) hgl).trans (HC.out (i * 2) (by omega))).trans v0
          have q1 := ((hb.cell (p := ⟨g, off + (i * 2 + 1), none⟩) hgl).trans (HC.out (i * 2 + 1) (by omega))).trans v1
          rw [← Nat.add_assoc] at q1
          have hd : ds.drop i = x :: ds.drop (i + 1) := by
            rw [List.drop_eq_getElem_cons (by have := HN.out; omega)]
            congr 1
            rw [List.getElem?_eq_getElem (by have := HN.out; omega)] at hx
            exact Option.some.inj hx
          have hkk := hk.out
          rw [hd, chkR_cons] at hkk
          have hpx : prevN ds (i + 1) = some x.n := by show (ds[i]?).map Pr.n = _; rw [hx]; rfl
          rw [← hpx] at hkk
          have hgw : g ≠ wr.heap.size := by have := hb.size; omega
          have hil : (i : Int) < n := by omega
          have HNm := Lib.hid (fun W => isname_any x.n W)
          have HVl := Lib.hid (fun W => isval_any x.v W)
          generalize nameB x.n = b1 at hkk HNm
          generalize valB x.v = b2 at hkk HVl
          rcases b1 with _ | _
          · have HQ := Lib.hid hkk
            clear hkk hk hd hpx v0 v1 hx
            go_wp2_with fail
            refine (HNm.out _).mono ?_
            rintro e w1 ⟨rfl, rfl⟩
            go_wp2
            go_ret
            exact ⟨by rw [HQ.out]; rfl, hb.alloc hb.size _⟩
          · rcases b2 with _ | _
            · have HQ := Lib.hid hkk
              clear hkk hk hd hpx v0 v1 hx
              go_wp2_with fail
              refine (HNm.out _).mono ?_
              rintro e w1 ⟨rfl, rfl⟩
              go_wp2_with fail
              refine (HVl.out _).mono ?_
              rintro e w1 ⟨rfl, rfl⟩
              go_wp2
              go_ret
              exact ⟨by rw [HQ.out]; rfl, hb.alloc hb.size _⟩
            · by_cases hi0 : i = 0
              · subst hi0
                rw [Nat.zero_mul, Nat.add_zero] at q0 q1
                have HQ := Lib.hid hkk
                clear hkk hk hd hpx v0 v1 hx
                go_wp2_with fail
                refine (HNm.out _).mono ?_
                rintro e w1 ⟨rfl, rfl⟩
                go_wp2_with fail
                refine (HVl.out _).mono ?_
                rintro e w1 ⟨rfl, rfl⟩
                go_wp2_with fail
                go_region
                go_wp2
                exact ⟨⟨1, by simp, by omega, by have := HQ.out; show _ = _; simpa [prevN, aheadB] using this, (hb.alloc hb.size _).drew⟩, by simp [intOf]; omega⟩
              · obtain ⟨j, rfl⟩ : ∃ j, i = j + 1 := ⟨i - 1, by omega⟩
                obtain ⟨y, hy⟩ : ∃ y, ds[j]? = some y := ⟨ds[j]'(by have := HN.out; omega), List.getElem?_eq_getElem (by have := HN.out; omega)⟩
                obtain ⟨u0, _⟩ := prc_at ds j y hy
                have p0 := ((hb.cell (p := ⟨g, off + j * 2, none⟩) hgl).trans (HC.out (j * 2) (by omega))).trans u0
                have hpy : prevN ds (j + 1) = some y.n := by show (ds[j]?).map Pr.n = _; rw [hy]; rfl
                rw [hpy, show aheadB (some y.n) x.n = decide (y.n < x.n) from rfl] at hkk
                have hcp : Op.bytesLess y.n x.n = decide (y.n < x.n) := less_dec _ _
                have e1 : ((j + 1 : Nat) : Int) - 1 = (j : Int) := by omega
                have e2 : ((j + 1 : Nat) : Int) > 0 := by omega
                have p1 := (((Below.refl wr.heap.size wr).alloc (Nat.le_refl _) (Obj.cells #[.string (bs x.n), .string (bs x.v)] 74)).cell (p := ⟨g, off + j * 2, none⟩) (by have := hb.size; show g < wr.heap.size; omega)).trans p0
                have e3 : IntKind.i64.wrap (j : Int) = (j : Int) := IntWalk.i64_in _ (by omega)
                have e4 : (j : Int) < n := by omega
                by_cases hlt2 : y.n < x.n
                · rw [decide_eq_true hlt2] at hcp hkk
                  have HQ := Lib.hid hkk
                  clear hkk hk hd hpx v0 v1 hx hlt2 u0 hy hpy
                  go_wp2_with fail
                  refine (HNm.out _).mono ?_
                  rintro e w1 ⟨rfl, rfl⟩
                  go_wp2_with fail
                  refine (HVl.out _).mono ?_
                  rintro e w1 ⟨rfl, rfl⟩
                  go_wp2_with fail
                  go_region
                  go_wp2
                  exact ⟨⟨j + 2, by simp; omega, by omega, by have := HQ.out; show _ = _; simpa using this, (hb.alloc hb.size _).drew⟩, by simp [intOf]; omega⟩
                · rw [decide_eq_false hlt2] at hcp hkk
                  have HQ := Lib.hid hkk
                  clear hkk hk hd hpx v0 v1 hx hlt2 u0 hy hpy
                  go_wp2_with fail
                  refine (HNm.out _).mono ?_
                  rintro e w1 ⟨rfl, rfl⟩
                  go_wp2_with fail
                  refine (HVl.out _).mono ?_
                  rintro e w1 ⟨rfl, rfl⟩
                  go_wp2_with fail
                  go_region
                  go_wp2
                  go_ret
                  exact ⟨by rw [HQ.out]; rfl, (hb.alloc hb.size _).drew⟩
        · have hil : ¬ (i : Int) < n := by omega
          have hd : ds.drop i = [] := List.drop_eq_nil_of_le (by have := HN.out; omega)
          have hkk := hk.out
          rw [hd, chkR_nil] at hkk
          have HQ := Lib.hid hkk
          clear hkk hk hd
          go_wp2
          go_ret
          exact ⟨by rw [HQ.out]; rfl, hb⟩
end Go.Proofs.YtfckgcckpfklaaaGreatDoor

namespace Go.Proofs.YtfckgcckpfklaaaGreatDoor
open Go.RowKit Go.Lib

theorem zc_pair : (Tryz.prog.info? 74).map (fun i => (i.zero, i.size, i.bytes)) = some (some (.agg #[.string ⟨#[]⟩, .string ⟨#[]⟩]), 2, 32) := by kernel_rfl
theorem prc_one (ds : List Pr) : ∀ u ∈ prc ds, u.oneCell' = true := by
  intro u hu
  simp only [prc, List.mem_flatMap, encP, List.mem_cons, List.mem_nil_iff, or_false] at hu
  obtain ⟨x, _, rfl | rfl⟩ := hu <;> rfl

/-- A slice of pairs, laid anew. -/
def NewP (w : World) (ds : List Pr) (e : Ending) (w' : World) : Prop := ∃ v', e = .returned v' ∧ Sl w' w.heap.size 2 v' ds.length (prc ds) ∧ Below w.heap.size w w'

theorem run_isnil (a : Option Addr) (n c : Nat) (w : World) : (binOp BinOp.eql 35 (.slice a n c) (.slice none 0 0)).run Tryz.prog w = .ok (.bool a.isNone) w := by
  have hu := run_underlying Tryz.underlying35
  have he : (Op.equal 35 (.slice a n c) (.slice none 0 0)).run Tryz.prog w = .ok a.isNone w := by
    show (Op.equalIn (9999 + 1) _ _ _).run _ _ = _
    unfold Op.equalIn
    simp only [Sem.run_bind, hu, Result.andThen]
    cases a <;> rfl
  simp [binOp, go_sem, he]

set_option maxHeartbeats 1000000 in
set_option maxRecDepth 100000 in
theorem clone_any (v : Value) (ds : List Pr) (base : Nat) (w : World) (hs : Sl w base 2 v ds.length (prc ds)) (hm : ds.length ≤ 1000000) :
    Calls Tryz.prog 87 #[v] w (NewP w ds) := by
  obtain ⟨i0, hi, hz0, hz1, hz2⟩ := info_parts zc_pair
  have Hz := Lib.hid hz0; have Hs := Lib.hid hz1; have Hb := Lib.hid hz2; have Hi := Lib.hid hi
  clear hz0 hz1 hz2 hi
  rcases hs.2 with ⟨rfl, h0⟩ | ⟨g, off, cap, rfl, _⟩
  · have hn := Lib.hid (List.eq_nil_of_length_eq_zero h0)
    clear hs h0
    have hq := fun W => run_isnil none 0 0 W
    go_enter Tryz.func87, Tryz.ntmps87
    go_wp2
    go_ret
    exact ⟨_, rfl, by rw [hn.out]; exact Sl.nil _ _ _, Below.refl _ _⟩
  · obtain ⟨n, hn⟩ : ∃ n, n = ds.length := ⟨_, rfl⟩
    rw [← hn] at hs
    have HN := Lib.hid hn
    have n1 : 0 + n ≤ maxLen := by unfold maxLen; omega
    have n2 : (0 + n) * 32 ≤ 140737488355328 := by omega
    rw [← hn] at hm ⊢
    clear hn
    have hq := fun W => run_isnil (some ⟨g, off, none⟩) n cap W
    go_enter Tryz.func87, Tryz.ntmps87
    go_wp2_with (at_builtin; refine wpList_append_sl2 _ rfl _ _ 35 rfl w.heap.size 74 i0 (.agg #[.string ⟨#[]⟩, .string ⟨#[]⟩]) 2 32 Tryz.underlying35 Hi.out Hz.out Hs.out Hb.out rfl (by decide) _ 0 _ rfl (Sl.lit w w.heap.size 2 0 #[] _ (Nat.le_refl _) (by decide) rfl) base _ n _ rfl (hs.alloc _) (prc_one _) n1 n2 (by simp) ?_; intro v' w1 hx)
    go_ret
    have hx1 := hx.now
    rw [Nat.zero_add] at hx1
    refine ⟨_, rfl, by rw [← HN.out]; exact hx1, ?_⟩
    exact ((Below.refl _ w).alloc (Nat.le_refl _) _).grown hx.grown (by simp) (fun k e => by have e2 : w.heap.size = k := Option.some.inj e; omega)
end Go.Proofs.YtfckgcckpfklaaaGreatDoor

namespace Go.Proofs.YtfckgcckpfklaaaGreatDoor
open Go.RowKit Go.Lib

instance (x y : Pr) : Decidable (ltP x y) := by unfold ltP; infer_instance
def Rising (l : List Pr) : Prop := l.Pairwise fun x y => ¬ ltP y x
theorem sorted_unique : ∀ (a b : List Pr), a.Perm b → Rising a → Rising b → a = b
  | [], b, hp, _, _ => (List.Perm.nil_eq hp)
  | x :: a, [], hp, _, _ => absurd hp (by simp)
  | x :: a, y :: b, hp, ha, hb => by
    have hxy : x = y := by
      have h1 := List.pairwise_cons.1 ha
      have h2 := List.pairwise_cons.1 hb
      have m1 : x ∈ y :: b := hp.subset (by simp)
      have m2 : y ∈ x :: a := hp.symm.subset (by simp)
      rcases List.mem_cons.1 m1 with e | m1
      · exact e
      · rcases List.mem_cons.1 m2 with e | m2
        · exact e.symm
        · rcases ltP_tri x y with h | h | h
          · exact absurd h (h2.1 x m1)
          · exact h
          · exact absurd h (h1.1 y m2)
    subst hxy
    rw [sorted_unique a b (List.Perm.cons_inv hp) (List.pairwise_cons.1 ha).2 (List.pairwise_cons.1 hb).2]
/-- Pairs, sorted. -/
def sortP (ds : List Pr) : List Pr := ds.mergeSort fun x y => !decide (ltP y x)
theorem sortP_perm (ds : List Pr) : (sortP ds).Perm ds := List.mergeSort_perm _ _
theorem sortP_rising (ds : List Pr) : Rising (sortP ds) := by
  have := List.pairwise_mergeSort (le := fun x y => !decide (ltP y x)) (fun a b c hab hbc => by
    simp only [Bool.not_eq_true', decide_eq_false_iff_not] at *
    intro h
    rcases ltP_tri b c with k | k | k
    · exact hab (ltP_trans k h)
    · subst k; exact hab h
    · exact hbc k) (fun a b => by
    simp only [Bool.or_eq_true, Bool.not_eq_true', decide_eq_false_iff_not]
    by_cases h : ltP b a
    · exact .inr fun k => ltP_irrefl _ (ltP_trans h k)
    · exact .inl h) ds
  refine this.imp ?_
  intro a b h
  simpa using h
theorem sortP_of {a ds : List Pr} (hp : a.Perm ds) (hr : Rising a) : a = sortP ds :=
  sorted_unique _ _ (hp.trans (sortP_perm ds).symm) hr (sortP_rising ds)

/-- What Make answers. -/
def MadeP (w : World) (ds : List Pr) (e : Ending) (w' : World) : Prop :=
  ∃ v', e = .returned (.tuple #[v', .int .i64 (cE (chk (sortP ds)))]) ∧ Sl w' w.heap.size 2 v' (sortP ds).length (prc (sortP ds)) ∧ Below w.heap.size w w'

set_option maxHeartbeats 1000000 in
set_option maxRecDepth 100000 in
theorem make_any (v : Value) (ds : List Pr) (base : Nat) (w : World) (hs : Sl w base 2 v ds.length (prc ds)) (hm : ds.length ≤ 1000000) :
    Calls Tryz.prog 61 #[v] w (MadeP w ds) := by
  go_enter Tryz.func61, Tryz.ntmps61
  go_wp2_with fail
  refine (clone_any v ds base _ hs hm).mono ?_
  rintro e w1 ⟨v1, rfl, s1, b1⟩
  go_wp2_with fail
  refine (sort_pr v1 ds w.heap.size _ s1 hm).mono ?_
  rintro e w2 ⟨rfl, ds', hp, hr, s2, t2⟩
  have hd := sortP_of hp hr
  subst hd
  rw [← (sortP_perm ds).length_eq] at s2
  have b2 : Below w.heap.size w w2 := b1.trans (t2.below b1.size fun k hk => (s1.lt k hk).1)
  go_wp2_with fail
  refine (check_any v1 (sortP ds) _ (Rd.of_sl s2) (by rw [(sortP_perm ds).length_eq]; exact hm)).mono ?_
  rintro e w3 ⟨rfl, b3⟩
  go_wp2
  go_ret2
  exact ⟨_, rfl, s2.below b3 (fun k hk => (s2.lt k hk).2), b2.trans (b3.mono b2.size)⟩
end Go.Proofs.YtfckgcckpfklaaaGreatDoor

namespace Go.Proofs.YtfckgcckpfklaaaGreatDoor
open Go.RowKit Go.Lib

/-- A text's parts between bytes c. -/
def parts (c : UInt8) : List UInt8 → List (List UInt8)
  | [] => [[]]
  | x :: l => if x = c then [] :: parts c l else match parts c l with
    | [] => [[x]]
    | p :: ps => (x :: p) :: ps
theorem parts_ne (c : UInt8) : ∀ l, parts c l ≠ []
  | [] => by simp [parts]
  | x :: l => by
    unfold parts
    split
    · simp
    · split <;> simp
theorem parts_none (c : UInt8) : ∀ l, c ∉ l → parts c l = [l]
  | [], _ => rfl
  | x :: l, h => by
    have hx : ¬ x = c := fun e => h (by simp [e])
    rw [parts, if_neg hx, parts_none c l (fun e => h (by simp [e]))]
theorem parts_app (c : UInt8) : ∀ l r, c ∉ l → parts c (l ++ c :: r) = l :: parts c r
  | [], r, _ => by simp [parts]
  | x :: l, r, h => by
    have hx : ¬ x = c := fun e => h (by simp [e])
    rw [List.cons_append, parts, if_neg hx, parts_app c l r (fun e => h (by simp [e]))]
theorem parts_index {c : UInt8} {l : List UInt8} {i : Nat} (h3 : l[i]? = some c) (h4 : c ∉ l.take i) : parts c l = l.take i :: parts c (l.drop (i + 1)) := by
  have hi : i < l.length := (List.getElem?_eq_some_iff.1 h3).1
  have he : l = l.take i ++ c :: l.drop (i + 1) := by
    have := List.take_append_drop i l
    rw [List.drop_eq_getElem_cons hi] at this
    rw [show l[i] = c by rw [List.getElem?_eq_getElem hi] at h3; exact Option.some.inj h3] at this
    exact this.symm
  have := parts_app c (l.take i) (l.drop (i + 1)) h4
  rw [← he] at this
  exact this
theorem parts_len (c : UInt8) : ∀ l p, p ∈ parts c l → p.length ≤ l.length
  | [], p, h => by simp [parts] at h; simp [h]
  | x :: l, p, h => by
    have ih := parts_len c l
    unfold parts at h
    split at h
    · rcases List.mem_cons.1 h with rfl | h
      · simp
      · have := ih p h; simp; omega
    · split at h
      · simp at h; simp [h]
      · rename_i q qs hq
        rcases List.mem_cons.1 h with rfl | h
        · have := ih q (by rw [hq]; simp); simp; omega
        · have := ih p (by rw [hq]; simp [h]); simp; omega
theorem parts_count (c : UInt8) : ∀ l, (parts c l).length ≤ l.length + 1
  | [] => by simp [parts]
  | x :: l => by
    have ih := parts_count c l
    unfold parts
    split
    · simp; omega
    · split
      · simp
      · rename_i q qs hq
        rw [hq] at ih
        simp at *; omega
end Go.Proofs.YtfckgcckpfklaaaGreatDoor

namespace Go.Proofs.YtfckgcckpfklaaaGreatDoor
open Go.RowKit Go.Lib
attribute [local go_sem] Oper.semAt_some

theorem index2_any (s : ByteArray) (c : UInt8) (w : World) :
    Calls Tryz.prog 102 #[.string s, .string (bs [c])] w fun e w' => e = .returned (.int .i64 (Lib.indexByte s.data.toList c)) ∧ w = w' := by
  go_enter Tryz.func102, Tryz.ntmps102
  go_wp2_with fail
  refine (index1_any _ _ _).mono ?_
  rintro e w1 ⟨rfl, rfl⟩
  go_wp2
  go_ret
  exact ⟨rfl, rfl⟩

/-- How much of the text is left: read off its box. -/
def leftIn (B : Nat) (W : World) : Nat := match W.cell? ⟨B, 0, none⟩ with
  | some (.string b) => b.size
  | _ => 0

set_option maxRecDepth 100000 in
set_option maxHeartbeats 2000000 in
theorem split_iter (n l B : Nat) (c : UInt8) (s0 : List UInt8) (J Jx : List (List UInt8) → World → Prop) (hn : 1 ≤ n)
    (hJs : ∀ pre W v, J pre W → J pre (W.setCell ⟨B, 0, none⟩ v))
    (hY : ∀ pre x t W, J pre W → parts c s0 = pre ++ x :: t → YieldAt Fence.wide (n - 1) Tryz.prog l #[.string (bs x)] W fun e W' =>
      (e = .returned (.bool true) ∧ J (pre ++ [x]) W' ∧ ∀ k, B ≤ k → k < B + 3 → W'.heap[k]? = W.heap[k]?) ∨ (e = .returned (.bool false) ∧ Jx (pre ++ [x]) W'))
    (W : World) (hs : W.cell? ⟨B, 0, none⟩ = some (.string (bs s0))) (hf : W.frozen? ⟨B, 0, none⟩ = false) (hc : W.cell? ⟨B + 1, 0, none⟩ = some (.string (bs [c]))) (hv : W.cell? ⟨B + 2, 0, none⟩ = some (.int .i64 0)) (h0 : J [] W) (hl : s0.length ≤ 1000000) :
    CallsIn Fence.wide n Tryz.prog 100 #[.func (.yield l) #[] #[], .pointer (some ⟨B + 1, 0, none⟩), .pointer (some ⟨B, 0, none⟩), .pointer (some ⟨B + 2, 0, none⟩)] W fun e W' => (∃ v, e = .returned v) ∧
      (J (parts c s0) W' ∨ ∃ pre x t, parts c s0 = pre ++ x :: t ∧ Jx (pre ++ [x]) W') := by
  have hz : (bs [c]).size = 1 := rfl
  refine callsIn_of_wp Tryz.func100 rfl trivial ?_ rfl
  simp only [Tryz.ntmps100, List.size_toArray, List.length_cons, List.length_nil, Nat.reduceAdd, Nat.reduceSub, Array.replicate_succ, Array.replicate_zero, List.push_toArray, List.append_toArray, List.nil_append, List.cons_append]
  gi_wp2
  gi_loopw [7] (fun _ wr => ∃ (pre : List (List UInt8)) (cur : List UInt8), parts c s0 = pre ++ parts c cur ∧ cur.length ≤ 1000000 ∧ J pre wr ∧ wr.cell? ⟨B, 0, none⟩ = some (.string (bs cur)) ∧ wr.frozen? ⟨B, 0, none⟩ = false ∧ wr.cell? ⟨B + 1, 0, none⟩ = some (.string (bs [c])) ∧ wr.cell? ⟨B + 2, 0, none⟩ = some (.int .i64 0)) (fun _ wr => leftIn B wr)
  case atStart => exact ⟨[], s0, by simp, hl, h0, hs, hf, hc, hv⟩
  case round =>
    clear hs hf hc hv h0
    obtain ⟨pre, cur, hp, hcl, hJ, hs, hf, hc, hv⟩ := hrel
    rcases indexB_bounds cur c with ⟨h1, h2⟩ | ⟨i, h1, h2, h3, h4⟩
    · have HI := Lib.hid (fun W => show Calls Tryz.prog 102 #[.string (bs cur), .string (bs [c])] W (fun e w' => e = .returned (.int .i64 (-1)) ∧ W = w') by rw [← h1]; exact index2_any (bs cur) c W)
      have hpp := Lib.hid (show parts c s0 = pre ++ [cur] by rw [hp, parts_none c cur h2])
      obtain ⟨fn, tmps, assign, body, hy, hR⟩ := hY pre cur [] wr hJ hpp.out
      clear hp h1 h2
      gi_wp2
      refine ⟨trivial, ?_⟩
      refine (callsIn_wide.2 (HI.out _)).mono ?_
      rintro e w1 ⟨rfl, rfl⟩
      gi_wp2
      refine hR.mono ?_
      rintro e W3 (⟨rfl, hJ3, hk3⟩ | ⟨rfl, hJx3⟩)
      · gi_wp2
        go_end0
        exact ⟨⟨_, rfl⟩, .inl (by rw [hpp.out]; exact hJ3)⟩
      · gi_wp2
        go_end0
        exact ⟨⟨_, rfl⟩, .inr ⟨pre, cur, [], hpp.out, hJx3⟩⟩
    · have HI := Lib.hid (fun W => show Calls Tryz.prog 102 #[.string (bs cur), .string (bs [c])] W (fun e w' => e = .returned (.int .i64 i) ∧ W = w') by rw [← h1]; exact index2_any (bs cur) c W)
      have hi1 : (i : Int) + 1 ≤ (bs cur).size := by rw [bs_size]; omega
      have hpp := Lib.hid (show parts c s0 = pre ++ cur.take i :: parts c (cur.drop (i + 1)) by rw [hp, parts_index h3 h4])
      obtain ⟨fn, tmps, assign, body, hy, hR⟩ := hY pre (cur.take i) _ wr hJ hpp.out
      have e1 := bs_take cur i
      have e2 := bs_drop cur (i + 1)
      have hcz : (bs cur).size ≤ 1000000 := bs_size_le _ _ hcl
      have HL := Lib.hid (show (cur.drop (i + 1)).length + i + 1 = cur.length by rw [List.length_drop]; omega)
      obtain ⟨nx, hnx⟩ : ∃ nx, nx = cur.drop (i + 1) := ⟨_, rfl⟩
      rw [← hnx] at e2 hpp HL
      clear hp h1 h2 h3 h4 hnx
      gi_wp2
      refine ⟨trivial, ?_⟩
      refine (callsIn_wide.2 (HI.out _)).mono ?_
      rintro e w1 ⟨rfl, rfl⟩
      gi_wp2
      refine hR.mono ?_
      rintro e W3 (⟨rfl, hJ3, hk3⟩ | ⟨rfl, hJx3⟩)
      · have hs3 := (World.cell?_of_block (a := ⟨B, 0, none⟩) (hk3 B (by omega) (by omega))).trans hs
        have hf3 := (World.frozen?_of_block (a := ⟨B, 0, none⟩) (hk3 B (by omega) (by omega))).trans hf
        have hc3 := (World.cell?_of_block (a := ⟨B + 1, 0, none⟩) (hk3 (B + 1) (by omega) (by omega))).trans hc
        have hv3 := (World.cell?_of_block (a := ⟨B + 2, 0, none⟩) (hk3 (B + 2) (by omega) (by omega))).trans hv
        gi_wp2
        have hlen := HL.out
        have hsame : (W3.setCell ⟨B, 0, none⟩ (.string (bs nx))).cell? ⟨B, 0, none⟩ = some (.string (bs nx)) := cell_setCell_same _ _ _ _ (by rw [hs3]; rfl)
        refine ⟨⟨pre ++ [cur.take i], nx, by rw [hpp.out]; simp, by omega, hJs _ _ _ hJ3, hsame, by rw [frozen_setCell]; exact hf3, ?_, ?_⟩, ?_⟩
        · rw [cell_setCell_other _ _ _ _ _ (.inl (by simp))]; exact hc3
        · rw [cell_setCell_other _ _ _ _ _ (.inl (by simp))]; exact hv3
        · unfold leftIn
          rw [hsame, hs]
          simp only
          rw [bs_size, bs_size]
          omega
      · gi_wp2
        refine bodyPost_ret (results_none rfl _ _ _) rfl ?_
        exact ⟨⟨_, rfl⟩, .inr ⟨pre, cur.take i, _, hpp.out, hJx3⟩⟩
end Go.Proofs.YtfckgcckpfklaaaGreatDoor

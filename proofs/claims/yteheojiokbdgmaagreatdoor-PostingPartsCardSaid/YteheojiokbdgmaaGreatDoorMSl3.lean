/- An append of whatever slice; slices of truths; a slice laid out in full. Layer 6: slices cloned; Make. Layer 6: Make; a list of pairs has one sorted spelling. Layer 6: a text's parts between two bytes: plain maths. -/
import Derived.Test.YteheojiokbdgmaaGreatDoorMSl
import Derived.Test.YteheojiokbdgmaaGreatDoorML4
import Derived.Test.YteheojiokbdgmaaGreatDoorMCmp
namespace Go.Proofs.YteheojiokbdgmaaGreatDoor
open Go.RowKit Go.Lib

section
variable {P : Program}
theorem Sl.lit (w : World) (base size n : Nat) (cs : Array Value) (e : TypeId) (hb : base ≤ w.heap.size) (hm : n ≤ maxLen) (hs : cs.size = n * size) : Sl (w.alloc (.cells cs e)) base size (.slice (some ⟨w.heap.size, 0, none⟩) n n) n cs.toList :=
  Sl.of_owns (World.ownsRow_lit (e := e) w cs n hb hm hs)

theorem run_append_none_sl (w : World) (base : Nat) (t ty e : TypeId) (i : TypeInfo) (size : Nat) (ht : P.underlying t = some (.slice e)) (hi : P.info? e = some i) (v : Value) (n : Nat) (xs : List Value) (hown : Sl w base size v n xs) :
    (Builtin.append_ #[t, t] ty #[v, .slice none 0 0]).run P w = .ok v w := by
  rcases hown.2 with ⟨rfl, rfl⟩ | ⟨g, off, cap, rfl, _, _, hnc, _⟩
  · simp [Builtin.append_, run_underlying ht, sizeOf, typeInfo, hi, Builtin.lenOf, Builtin.firstCells]
  · simp [Builtin.append_, run_underlying ht, sizeOf, typeInfo, hi, Builtin.lenOf, Builtin.firstCells, hnc, storeCells]

/-- 'append(v, x..)', x whatever slice of one's own, for the walk. -/
theorem wpList_append_sl2 (w : World) {ops : Array Oper} {rest : List Oper} {o : Oper} {a : Act} {Q : Exit → Act → World → Prop} (hgd : o.guard = none) (s x : Operand) (t : TypeId)
    (ho : o.op = .call { callee := .builtin .append, args := #[s, x], argTypes := #[t, t] })
    (base : Nat) (e : TypeId) (i : TypeInfo) (z : Value) (size bytes : Nat) (ht : P.underlying t = some (.slice e)) (hi : P.info? e = some i) (hz : i.zero = some z)
    (hsize : i.size = size) (hby : i.bytes = bytes) (hzs : z.cells.size = size) (hsz : 0 < size)
    (v : Value) (n : Nat) (xs : List Value) (hs : a.eval s = v) (hown : Sl w base size v n xs)
    (b2 : Nat) (xv : Value) (m : Nat) (news : List Value) (hx : a.eval x = xv) (hnew : Sl w b2 size xv m news) (h1 : ∀ u ∈ news, u.oneCell' = true)
    (h63 : n + m ≤ maxLen) (hbytes : (n + m) * bytes ≤ 140737488355328) (hbase : base ≤ w.heap.size)
    (h : ∀ v' w', Ext base size w v n xs w' v' (n + m) (xs ++ news) → wpList P ops Q rest (a.put o.dst v') w') : wpList P ops Q (o :: rest) a w := by
  rcases hnew.2 with ⟨rfl, rfl⟩ | ⟨g, off, cap, rfl, _, _, _, _, _, _⟩
  · have hn : news = [] := List.eq_nil_of_length_eq_zero (by have := hnew.1; omega)
    subst hn
    refine wpList_plain hgd fun K hK => ?_
    have hr := run_append_none_sl (P := P) w base t o.type e i size ht hi v n xs hown
    unfold Oper.wp execOp
    simp only [ho, resolve, invoke, builtin, Sem.run_bind, Sem.run_pure, Result.andThen_ok, List.map_toArray, List.map_cons, List.map_nil, hs, hx, hr]
    have := h v w
    rw [Nat.add_zero, List.append_nil] at this
    exact hK _ _ (this (Ext.refl hown))
  · exact wpList_append_sl w hgd s x t ho base e i z size bytes ht hi hz hsize hby hzs hsz v n xs hs hown ⟨g, off, none⟩ m cap news hx hnew.1 hnew.cells h1 h63 hbytes hbase h
end

/-- The cells of truths. -/
def bc (l : List Bool) : List Value := l.map Value.bool
theorem bc_length (l : List Bool) : (bc l).length = l.length := by simp [bc]
theorem bc_append (l m : List Bool) : bc (l ++ m) = bc l ++ bc m := by simp [bc]
theorem bc_one (l : List Bool) : ∀ v ∈ bc l, v.oneCell' = true := by
  intro v hv
  simp only [bc, List.mem_map] at hv
  obtain ⟨b, _, rfl⟩ := hv
  rfl
theorem sl_bool {w : World} {base g off n cap : Nat} {l : List Bool} (h : Sl w base 1 (.slice (some ⟨g, off, none⟩) n cap) n (bc l)) (j : Nat) (c : Bool) (hj : l[j]? = some c) : w.cell? ⟨g, off + j, none⟩ = some (.bool c) := by
  rcases h.2 with ⟨h0, _⟩ | ⟨g', off', cap', he, _, _, _, _, _, hcell⟩
  · cases h0
  · cases he
    have hlt : j < l.length := (List.getElem?_eq_some_iff.1 hj).1
    have hn : l.length = n := by have := h.1; rw [bc_length] at this; omega
    rw [hcell j (by omega)]
    simp [bc, hj]
/-- A part of one. -/
theorem Sl.part {w : World} {base g off n cap : Nat} {xs : List Value} (h : Sl w base 1 (.slice (some ⟨g, off, none⟩) n cap) n xs) (i m c : Nat) (hm : i + m ≤ n) (hc : c + i = cap) : Sl w base 1 (.slice (some ⟨g, off + i, none⟩) m c) m ((xs.drop i).take m) := by
  have hl : xs.length = n := by have := h.1; omega
  rcases h.2 with ⟨h0, _⟩ | ⟨g', off', cap', he, hbg, hg, hnc, hcm, hfree, hcell⟩
  · cases h0
  · cases he
    refine ⟨by rw [List.length_take, List.length_drop]; omega, .inr ⟨g, off + i, c, rfl, hbg, hg, by omega, by omega, fun j hj => ?_, fun j hj => ?_⟩⟩
    · rw [Nat.add_assoc]; exact hfree (i + j) (by omega)
    · rw [Nat.add_assoc, hcell (i + j) (by omega), List.getElem?_take, if_pos (by omega), List.getElem?_drop]

/-- The answer is a slice of these truths, in new memory. -/
def MadeB (w : World) (l : List Bool) (e : Ending) (w' : World) : Prop :=
  ∃ v, e = .returned v ∧ Sl w' w.heap.size 1 v l.length (bc l) ∧ Below w.heap.size w w'
theorem bi_bool : (Tryz.prog.info? 4).map (fun i => (i.zero, i.size, i.bytes)) = some (some (.bool false), 1, 1) := by kernel_rfl
end Go.Proofs.YteheojiokbdgmaaGreatDoor

namespace Go.Proofs.YteheojiokbdgmaaGreatDoor
open Go.RowKit Go.Lib

theorem zc_pair : (Tryz.prog.info? 58).map (fun i => (i.zero, i.size, i.bytes)) = some (some (.agg #[.string ⟨#[]⟩, .string ⟨#[]⟩]), 2, 32) := by kernel_rfl
theorem prc_one (ds : List Pr) : ∀ u ∈ prc ds, u.oneCell' = true := by
  intro u hu
  simp only [prc, List.mem_flatMap, encP, List.mem_cons, List.mem_nil_iff, or_false] at hu
  obtain ⟨x, _, rfl | rfl⟩ := hu <;> rfl

/-- A slice of pairs, laid anew. -/
def NewP (w : World) (ds : List Pr) (e : Ending) (w' : World) : Prop := ∃ v', e = .returned v' ∧ Sl w' w.heap.size 2 v' ds.length (prc ds) ∧ Below w.heap.size w w'

theorem run_isnil (a : Option Addr) (n c : Nat) (w : World) : (binOp BinOp.eql 52 (.slice a n c) (.slice none 0 0)).run Tryz.prog w = .ok (.bool a.isNone) w := by
  have hu := run_underlying Tryz.underlying52
  have he : (Op.equal 52 (.slice a n c) (.slice none 0 0)).run Tryz.prog w = .ok a.isNone w := by
    show (Op.equalIn (9999 + 1) _ _ _).run _ _ = _
    unfold Op.equalIn
    simp only [Sem.run_bind, hu, Result.andThen]
    cases a <;> rfl
  simp [binOp, go_sem, he]

set_option maxHeartbeats 1000000 in
set_option maxRecDepth 100000 in
theorem clone_any (v : Value) (ds : List Pr) (base : Nat) (w : World) (hs : Sl w base 2 v ds.length (prc ds)) (hm : ds.length ≤ 1000000) :
    Calls Tryz.prog 49 #[v] w (NewP w ds) := by
  obtain ⟨i0, hi, hz0, hz1, hz2⟩ := info_parts zc_pair
  have Hz := Lib.hid hz0; have Hs := Lib.hid hz1; have Hb := Lib.hid hz2; have Hi := Lib.hid hi
  clear hz0 hz1 hz2 hi
  rcases hs.2 with ⟨rfl, h0⟩ | ⟨g, off, cap, rfl, _⟩
  · have hn := Lib.hid (List.eq_nil_of_length_eq_zero h0)
    clear hs h0
    have hq := fun W => run_isnil none 0 0 W
    go_enter Tryz.func49, Tryz.ntmps49
    go_wp2
    go_ret
    exact ⟨_, rfl, by rw [hn.out]; exact Sl.nil _ _ _, Below.refl _ _⟩
  · obtain ⟨n, hn⟩ : ∃ n, n = ds.length := ⟨_, rfl⟩
    rw [← hn] at hs
    have HN := Lib.hid hn
    have n1 : 0 + n ≤ maxLen := by unfold maxLen; omega
    have n2 : (0 + n) * 32 ≤ 140737488355328 := by omega
    rw [← hn] at hm ⊢
    clear hn
    have hq := fun W => run_isnil (some ⟨g, off, none⟩) n cap W
    go_enter Tryz.func49, Tryz.ntmps49
    go_wp2_with (at_builtin; refine wpList_append_sl2 _ rfl _ _ 52 rfl w.heap.size 58 i0 (.agg #[.string ⟨#[]⟩, .string ⟨#[]⟩]) 2 32 Tryz.underlying52 Hi.out Hz.out Hs.out Hb.out rfl (by decide) _ 0 _ rfl (Sl.lit w w.heap.size 2 0 #[] _ (Nat.le_refl _) (by decide) rfl) base _ n _ rfl (hs.alloc _) (prc_one _) n1 n2 (by simp) ?_; intro v' w1 hx)
    go_ret
    have hx1 := hx.now
    rw [Nat.zero_add] at hx1
    refine ⟨_, rfl, by rw [← HN.out]; exact hx1, ?_⟩
    exact ((Below.refl _ w).alloc (Nat.le_refl _) _).grown hx.grown (by simp) (fun k e => by have e2 : w.heap.size = k := Option.some.inj e; omega)
end Go.Proofs.YteheojiokbdgmaaGreatDoor

namespace Go.Proofs.YteheojiokbdgmaaGreatDoor
open Go.RowKit Go.Lib

instance (x y : Pr) : Decidable (ltP x y) := by unfold ltP; infer_instance
def Rising (l : List Pr) : Prop := l.Pairwise fun x y => ¬ ltP y x
theorem sorted_unique : ∀ (a b : List Pr), a.Perm b → Rising a → Rising b → a = b
  | [], b, hp, _, _ => (List.Perm.nil_eq hp)
  | x :: a, [], hp, _, _ => absurd hp (by simp)
  | x :: a, y :: b, hp, ha, hb => by
    have hxy : x = y := by
      have h1 := List.pairwise_cons.1 ha
      have h2 := List.pairwise_cons.1 hb
      have m1 : x ∈ y :: b := hp.subset (by simp)
      have m2 : y ∈ x :: a := hp.symm.subset (by simp)
      rcases List.mem_cons.1 m1 with e | m1
      · exact e
      · rcases List.mem_cons.1 m2 with e | m2
        · exact e.symm
        · rcases ltP_tri x y with h | h | h
          · exact absurd h (h2.1 x m1)
          · exact h
          · exact absurd h (h1.1 y m2)
    subst hxy
    rw [sorted_unique a b (List.Perm.cons_inv hp) (List.pairwise_cons.1 ha).2 (List.pairwise_cons.1 hb).2]
/-- Pairs, sorted. -/
def sortP (ds : List Pr) : List Pr := ds.mergeSort fun x y => !decide (ltP y x)
theorem sortP_perm (ds : List Pr) : (sortP ds).Perm ds := List.mergeSort_perm _ _
theorem sortP_rising (ds : List Pr) : Rising (sortP ds) := by
  have := List.pairwise_mergeSort (le := fun x y => !decide (ltP y x)) (fun a b c hab hbc => by
    simp only [Bool.not_eq_true', decide_eq_false_iff_not] at *
    intro h
    rcases ltP_tri b c with k | k | k
    · exact hab (ltP_trans k h)
    · subst k; exact hab h
    · exact hbc k) (fun a b => by
    simp only [Bool.or_eq_true, Bool.not_eq_true', decide_eq_false_iff_not]
    by_cases h : ltP b a
    · exact .inr fun k => ltP_irrefl _ (ltP_trans h k)
    · exact .inl h) ds
  refine this.imp ?_
  intro a b h
  simpa using h
theorem sortP_of {a ds : List Pr} (hp : a.Perm ds) (hr : Rising a) : a = sortP ds :=
  sorted_unique _ _ (hp.trans (sortP_perm ds).symm) hr (sortP_rising ds)

/-- What Make answers. -/
def MadeP (w : World) (ds : List Pr) (e : Ending) (w' : World) : Prop :=
  ∃ v', e = .returned (.tuple #[v', .int .i64 (cE (chk (sortP ds)))]) ∧ Sl w' w.heap.size 2 v' (sortP ds).length (prc (sortP ds)) ∧ Below w.heap.size w w'

set_option maxHeartbeats 1000000 in
set_option maxRecDepth 100000 in
theorem make_any (v : Value) (ds : List Pr) (base : Nat) (w : World) (hs : Sl w base 2 v ds.length (prc ds)) (hm : ds.length ≤ 1000000) :
    Calls Tryz.prog 38 #[v] w (MadeP w ds) := by
  go_enter Tryz.func38, Tryz.ntmps38
  go_wp2_with fail
  refine (clone_any v ds base _ hs hm).mono ?_
  rintro e w1 ⟨v1, rfl, s1, b1⟩
  go_wp2_with fail
  refine (sort_pr v1 ds w.heap.size _ s1 hm).mono ?_
  rintro e w2 ⟨rfl, ds', hp, hr, s2, t2⟩
  have hd := sortP_of hp hr
  subst hd
  rw [← (sortP_perm ds).length_eq] at s2
  have b2 : Below w.heap.size w w2 := b1.trans (t2.below b1.size fun k hk => (s1.lt k hk).1)
  go_wp2_with fail
  refine (check_any v1 (sortP ds) _ (Rd.of_sl s2) (by rw [(sortP_perm ds).length_eq]; exact hm)).mono ?_
  rintro e w3 ⟨rfl, b3⟩
  go_wp2
  go_ret2
  exact ⟨_, rfl, s2.below b3 (fun k hk => (s2.lt k hk).2), b2.trans (b3.mono b2.size)⟩
end Go.Proofs.YteheojiokbdgmaaGreatDoor

namespace Go.Proofs.YteheojiokbdgmaaGreatDoor
open Go.RowKit Go.Lib

/-- A text's parts between bytes c. -/
def parts (c : UInt8) : List UInt8 → List (List UInt8)
  | [] => [[]]
  | x :: l => if x = c then [] :: parts c l else match parts c l with
    | [] => [[x]]
    | p :: ps => (x :: p) :: ps
theorem parts_ne (c : UInt8) : ∀ l, parts c l ≠ []
  | [] => by simp [parts]
  | x :: l => by
    unfold parts
    split
    · simp
    · split <;> simp
theorem parts_none (c : UInt8) : ∀ l, c ∉ l → parts c l = [l]
  | [], _ => rfl
  | x :: l, h => by
    have hx : ¬ x = c := fun e => h (by simp [e])
    rw [parts, if_neg hx, parts_none c l (fun e => h (by simp [e]))]
theorem parts_app (c : UInt8) : ∀ l r, c ∉ l → parts c (l ++ c :: r) = l :: parts c r
  | [], r, _ => by simp [parts]
  | x :: l, r, h => by
    have hx : ¬ x = c := fun e => h (by simp [e])
    rw [List.cons_append, parts, if_neg hx, parts_app c l r (fun e => h (by simp [e]))]
theorem parts_index {c : UInt8} {l : List UInt8} {i : Nat} (h3 : l[i]? = some c) (h4 : c ∉ l.take i) : parts c l = l.take i :: parts c (l.drop (i + 1)) := by
  have hi : i < l.length := (List.getElem?_eq_some_iff.1 h3).1
  have he : l = l.take i ++ c :: l.drop (i + 1) := by
    have := List.take_append_drop i l
    rw [List.drop_eq_getElem_cons hi] at this
    rw [show l[i] = c by rw [List.getElem?_eq_getElem hi] at h3; exact Option.some.inj h3] at this
    exact this.symm
  have := parts_app c (l.take i) (l.drop (i + 1)) h4
  rw [← he] at this
  exact this
theorem parts_len (c : UInt8) : ∀ l p, p ∈ parts c l → p.length ≤ l.length
  | [], p, h => by simp [parts] at h; simp [h]
  | x :: l, p, h => by
    have ih := parts_len c l
    unfold parts at h
    split at h
    · rcases List.mem_cons.1 h with rfl | h
      · simp
      · have := ih p h; simp; omega
    · split at h
      · simp at h; simp [h]
      · rename_i q qs hq
        rcases List.mem_cons.1 h with rfl | h
        · have := ih q (by rw [hq]; simp); simp; omega
        · have := ih p (by rw [hq]; simp [h]); simp; omega
theorem parts_count (c : UInt8) : ∀ l, (parts c l).length ≤ l.length + 1
  | [] => by simp [parts]
  | x :: l => by
    have ih := parts_count c l
    unfold parts
    split
    · simp; omega
    · split
      · simp
      · rename_i q qs hq
        rw [hq] at ih
        simp at *; omega
end Go.Proofs.YteheojiokbdgmaaGreatDoor

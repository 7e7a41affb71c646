/- An append of whatever slice; slices of truths; a slice laid out in full. Slices that are only read. Layer 12: the document's lists of numbers, walked: In, Put, Less. Layer 12: the document's Put, walked. -/
import Derived.Test.YtefhnjepocbodaaGreatDoorMB0
import Derived.Test.YtefhnjepocbodaaGreatDoorMT0
namespace Go.Proofs.YtefhnjepocbodaaGreatDoor
open Go.RowKit Go.Lib

section
variable {P : Program}
theorem Sl.lit (w : World) (base size n : Nat) (cs : Array Value) (e : TypeId) (hb : base ≤ w.heap.size) (hm : n ≤ maxLen) (hs : cs.size = n * size) : Sl (w.alloc (.cells cs e)) base size (.slice (some ⟨w.heap.size, 0, none⟩) n n) n cs.toList :=
  Sl.of_owns (World.ownsRow_lit (e := e) w cs n hb hm hs)

theorem run_append_none_sl (w : World) (base : Nat) (t ty e : TypeId) (i : TypeInfo) (size : Nat) (ht : P.underlying t = some (.slice e)) (hi : P.info? e = some i) (v : Value) (n : Nat) (xs : List Value) (hown : Sl w base size v n xs) :
    (Builtin.append_ #[t, t] ty #[v, .slice none 0 0]).run P w = .ok v w := by
  rcases hown.2 with ⟨rfl, rfl⟩ | ⟨g, off, cap, rfl, _, _, hnc, _⟩
  · simp [Builtin.append_, run_underlying ht, sizeOf, typeInfo, hi, Builtin.lenOf, Builtin.firstCells]
  · simp [Builtin.append_, run_underlying ht, sizeOf, typeInfo, hi, Builtin.lenOf, Builtin.firstCells, hnc, storeCells]

/-- 'append(v, x..)', x whatever slice of one's own, for the walk. -/
theorem wpList_append_sl2 (w : World) {ops : Array Oper} {rest : List Oper} {o : Oper} {a : Act} {Q : Exit → Act → World → Prop} (hgd : o.guard = none) (s x : Operand) (t : TypeId)
    (ho : o.op = .call { callee := .builtin .append, args := #[s, x], argTypes := #[t, t] })
    (base : Nat) (e : TypeId) (i : TypeInfo) (z : Value) (size bytes : Nat) (ht : P.underlying t = some (.slice e)) (hi : P.info? e = some i) (hz : i.zero = some z)
    (hsize : i.size = size) (hby : i.bytes = bytes) (hzs : z.cells.size = size) (hsz : 0 < size)
    (v : Value) (n : Nat) (xs : List Value) (hs : a.eval s = v) (hown : Sl w base size v n xs)
    (b2 : Nat) (xv : Value) (m : Nat) (news : List Value) (hx : a.eval x = xv) (hnew : Sl w b2 size xv m news) (h1 : ∀ u ∈ news, u.oneCell' = true)
    (h63 : n + m ≤ maxLen) (hbytes : (n + m) * bytes ≤ 140737488355328) (hbase : base ≤ w.heap.size)
    (h : ∀ v' w', Ext base size w v n xs w' v' (n + m) (xs ++ news) → wpList P ops Q rest (a.put o.dst v') w') : wpList P ops Q (o :: rest) a w := by
  rcases hnew.2 with ⟨rfl, rfl⟩ | ⟨g, off, cap, rfl, _, _, _, _, _, _⟩
  · have hn : news = [] := List.eq_nil_of_length_eq_zero (by have := hnew.1; omega)
    subst hn
    refine wpList_plain hgd fun K hK => ?_
    have hr := run_append_none_sl (P := P) w base t o.type e i size ht hi v n xs hown
    unfold Oper.wp execOp
    simp only [ho, resolve, invoke, builtin, Sem.run_bind, Sem.run_pure, Result.andThen_ok, List.map_toArray, List.map_cons, List.map_nil, hs, hx, hr]
    have := h v w
    rw [Nat.add_zero, List.append_nil] at this
    exact hK _ _ (this (Ext.refl hown))
  · exact wpList_append_sl w hgd s x t ho base e i z size bytes ht hi hz hsize hby hzs hsz v n xs hs hown ⟨g, off, none⟩ m cap news hx hnew.1 hnew.cells h1 h63 hbytes hbase h
end

/-- The cells of truths. -/
def bc (l : List Bool) : List Value := l.map Value.bool
theorem bc_length (l : List Bool) : (bc l).length = l.length := by simp [bc]
theorem bc_append (l m : List Bool) : bc (l ++ m) = bc l ++ bc m := by simp [bc]
theorem bc_one (l : List Bool) : ∀ v ∈ bc l, v.oneCell' = true := by
  intro v hv
  simp only [bc, List.mem_map] at hv
  obtain ⟨b, _, rfl⟩ := hv
  rfl
theorem sl_bool {w : World} {base g off n cap : Nat} {l : List Bool} (h : Sl w base 1 (.slice (some ⟨g, off, none⟩) n cap) n (bc l)) (j : Nat) (c : Bool) (hj : l[j]? = some c) : w.cell? ⟨g, off + j, none⟩ = some (.bool c) := by
  rcases h.2 with ⟨h0, _⟩ | ⟨g', off', cap', he, _, _, _, _, _, hcell⟩
  · cases h0
  · cases he
    have hlt : j < l.length := (List.getElem?_eq_some_iff.1 hj).1
    have hn : l.length = n := by have := h.1; rw [bc_length] at this; omega
    rw [hcell j (by omega)]
    simp [bc, hj]
/-- A part of one. -/
theorem Sl.part {w : World} {base g off n cap : Nat} {xs : List Value} (h : Sl w base 1 (.slice (some ⟨g, off, none⟩) n cap) n xs) (i m c : Nat) (hm : i + m ≤ n) (hc : c + i = cap) : Sl w base 1 (.slice (some ⟨g, off + i, none⟩) m c) m ((xs.drop i).take m) := by
  have hl : xs.length = n := by have := h.1; omega
  rcases h.2 with ⟨h0, _⟩ | ⟨g', off', cap', he, hbg, hg, hnc, hcm, hfree, hcell⟩
  · cases h0
  · cases he
    refine ⟨by rw [List.length_take, List.length_drop]; omega, .inr ⟨g, off + i, c, rfl, hbg, hg, by omega, by omega, fun j hj => ?_, fun j hj => ?_⟩⟩
    · rw [Nat.add_assoc]; exact hfree (i + j) (by omega)
    · rw [Nat.add_assoc, hcell (i + j) (by omega), List.getElem?_take, if_pos (by omega), List.getElem?_drop]

/-- The answer is a slice of these truths, in new memory. -/
def MadeB (w : World) (l : List Bool) (e : Ending) (w' : World) : Prop :=
  ∃ v, e = .returned v ∧ Sl w' w.heap.size 1 v l.length (bc l) ∧ Below w.heap.size w w'
theorem bi_bool : (Tryz.prog.info? 4).map (fun i => (i.zero, i.size, i.bytes)) = some (some (.bool false), 1, 1) := by kernel_rfl
end Go.Proofs.YtefhnjepocbodaaGreatDoor

namespace Go.Proofs.YtefhnjepocbodaaGreatDoor
open Go.RowKit Go.Lib

/-- v is a slice of n elements (each of so many cells) whose cells read as xs. -/
def Rd (w : World) (size : Nat) (v : Value) (n : Nat) (xs : List Value) : Prop :=
  xs.length = n * size ∧ ∃ a cap g off, v = .slice a n cap ∧ (0 < n → a = some ⟨g, off, none⟩ ∧ g < w.heap.size) ∧ ∀ j, j < n * size → w.cell? ⟨g, off + j, none⟩ = xs[j]?
theorem Rd.of_sl {w : World} {base size n : Nat} {v : Value} {xs : List Value} (h : Sl w base size v n xs) : Rd w size v n xs := by
  refine ⟨h.1, ?_⟩
  rcases h.2 with ⟨rfl, rfl⟩ | ⟨g, off, cap, rfl, h1, h2, _, _, _, h3⟩
  · exact ⟨none, 0, 0, 0, rfl, fun h => absurd h (by omega), fun j hj => absurd hj (by omega)⟩
  · exact ⟨_, cap, g, off, rfl, fun _ => ⟨rfl, h2⟩, h3⟩
theorem Rd.on {w w' : World} {size n : Nat} {v : Value} {xs : List Value} (h : Rd w size v n xs) (b : Below w.heap.size w w') : Rd w' size v n xs := by
  obtain ⟨h0, a, cap, g, off, hv, h1, h2⟩ := h
  refine ⟨h0, a, cap, g, off, hv, fun hn => ⟨(h1 hn).1, Nat.lt_of_lt_of_le (h1 hn).2 b.size⟩, fun j hj => ?_⟩
  have hn : 0 < n := by
    rcases Nat.eq_zero_or_pos n with rfl | hp
    · simp at hj
    · exact hp
  exact (b.cell (p := ⟨g, off + j, none⟩) (h1 hn).2).trans (h2 j hj)

end Go.Proofs.YtefhnjepocbodaaGreatDoor

namespace Go.Proofs.YtefhnjepocbodaaGreatDoor
open Go.RowKit Go.Lib

/-- The cells of numbers. -/
def ic (l : List Int) : List Value := l.map fun n => Value.int .i64 n
theorem ic_length (l : List Int) : (ic l).length = l.length := by simp [ic]
theorem ic_append (l m : List Int) : ic (l ++ m) = ic l ++ ic m := by simp [ic]
theorem ic_one (l : List Int) : ∀ v ∈ ic l, v.oneCell' = true := by
  intro v hv
  simp only [ic, List.mem_map] at hv
  obtain ⟨n, _, rfl⟩ := hv
  rfl
theorem ic_at (l : List Int) (i : Nat) (n : Int) (h : l[i]? = some n) : (ic l)[i]? = some (.int .i64 n) := by simp [ic, h]
theorem bi_int : (Tryz.prog.info? 3).map (fun i => (i.zero, i.size, i.bytes)) = some (some (.int .i64 0), 1, 8) := by kernel_rfl
/-- A list of numbers that is only read. -/
def Ns (w : World) (v : Value) (l : List Int) : Prop := Rd w 1 v l.length (ic l) ∧ l.length ≤ 100000
theorem Ns.on {w w' : World} {v : Value} {l : List Int} (h : Ns w v l) (b : Below w.heap.size w w') : Ns w' v l := ⟨h.1.on b, h.2⟩
theorem Ns.of_sl {w : World} {base : Nat} {v : Value} {l : List Int} (h : Sl w base 1 v l.length (ic l)) (hl : l.length ≤ 100000) : Ns w v l := ⟨Rd.of_sl h, hl⟩
/-- The answer is a list of these numbers, in new memory. -/
def NewN (w : World) (l : List Int) (e : Ending) (w' : World) : Prop := ∃ v, e = .returned v ∧ Sl w' w.heap.size 1 v l.length (ic l) ∧ Below w.heap.size w w'

set_option maxHeartbeats 1000000 in
set_option maxRecDepth 100000 in
theorem rin_any (v : Value) (l : List Int) (n : Int) (w : World) (h : Ns w v l) :
    Calls Tryz.prog 51 #[v, .int .i64 n] w fun e w' => e = .returned (.bool (decide (n ∈ l))) ∧ w = w' := by
  obtain ⟨⟨_, a, cap, g, off, rfl, hg, hc⟩, hl⟩ := h
  obtain ⟨N, hN⟩ : ∃ N, N = l.length := ⟨_, rfl⟩
  rw [← hN] at hg hc hl ⊢
  have HN := Lib.hid hN
  have HC := Lib.hid hc
  have HG := Lib.hid hg
  clear hN hc hg
  go_enter Tryz.func51, Tryz.ntmps51
  go_wp2_with fail
  go_loopw [9] (fun i' wr => ∃ (i : Nat), i' = .int .i64 i ∧ i ≤ N ∧ Hid (n ∉ l.take i) ∧ w = wr) (fun i' _ => N - (RowKit.intOf i').toNat)
  case atStart => exact ⟨0, rfl, by omega, by simp [Hid], rfl⟩
  case round =>
    obtain ⟨i, rfl, hi, hni, rfl⟩ := hrel
    have HNI := Lib.hid hni.out
    clear hni
    by_cases hlt : i < N
    · obtain ⟨rfl, hgl⟩ := HG.out (by omega)
      obtain ⟨x, hx⟩ : ∃ x, l[i]? = some x := ⟨l[i]'(by have := HN.out; omega), List.getElem?_eq_getElem (by have := HN.out; omega)⟩
      have c0 := (HC.out i (by omega)).trans (ic_at l i x hx)
      have HTK := Lib.hid (show l.take (i + 1) = l.take i ++ [x] by rw [List.take_add_one, hx]; rfl)
      have HM := Lib.hid (List.mem_of_getElem? hx)
      have hil : (i : Int) < N := by omega
      clear hx
      by_cases he : x = n
      · have e1 : (x == n) = true := by simpa using he
        have HQ := Lib.hid (show decide (n ∈ l) = true by rw [← he]; exact decide_eq_true HM.out)
        clear he
        go_wp2
        go_ret
        exact ⟨by rw [HQ.out]; rfl, rfl⟩
      · have e1 : (x == n) = false := by simpa using he
        have HQ := Lib.hid (show n ∉ l.take (i + 1) by
          rw [HTK.out]
          intro hm
          rcases List.mem_append.1 hm with hm | hm
          · exact HNI.out hm
          · exact he (List.mem_singleton.1 hm).symm)
        clear he
        go_wp2
        exact ⟨⟨i + 1, by simp, by omega, HQ, by trivial⟩, by simp [RowKit.intOf]; omega⟩
    · have hil : ¬ (i : Int) < N := by omega
      have HQ := Lib.hid (show decide (n ∈ l) = false by
        have := HNI.out
        rw [List.take_of_length_le (by have := HN.out; omega)] at this
        exact decide_eq_false this)
      go_wp2
      go_ret
      exact ⟨by rw [HQ.out]; rfl, rfl⟩

theorem lessZ_snoc (l o : List Int) (x : Int) : pickZ (l ++ [x]) o false = pickZ l o false ++ (if x ∈ o then [] else [x]) := by
  unfold pickZ
  rw [List.filter_append]
  congr 1
  by_cases h : x ∈ o <;> simp [h]

end Go.Proofs.YtefhnjepocbodaaGreatDoor

namespace Go.Proofs.YtefhnjepocbodaaGreatDoor
open Go.RowKit Go.Lib

/-- The loop that puts one more in: is it in, what is laid out. -/
def stepN (n : Int) (r : Bool × List Int) (x : Int) : Bool × List Int := if r.1 = false ∧ n < x then (true, r.2 ++ [n, x]) else (r.1, r.2 ++ [x])
def putF (n : Int) (b : Bool) (l : List Int) : Bool × List Int := l.foldl (stepN n) (b, [])
theorem putF_snoc (n : Int) (b : Bool) (l : List Int) (x : Int) : putF n b (l ++ [x]) = stepN n (putF n b l) x := by simp [putF, List.foldl_append]
theorem putF_in (n : Int) : ∀ (l acc : List Int), l.foldl (stepN n) (true, acc) = (true, acc ++ l)
  | [], acc => by simp
  | x :: r, acc => by rw [List.foldl_cons, stepN, if_neg (by simp), putF_in n r]; simp
theorem putF_go (n : Int) : ∀ (l acc : List Int), (if (l.foldl (stepN n) (false, acc)).1 = true then (l.foldl (stepN n) (false, acc)).2 else (l.foldl (stepN n) (false, acc)).2 ++ [n]) = acc ++ insZ n l
  | [], acc => by simp [insZ]
  | x :: r, acc => by
    rw [List.foldl_cons]
    by_cases h : n < x
    · have e : stepN n (false, acc) x = (true, acc ++ [n, x]) := by unfold stepN; rw [if_pos ⟨rfl, h⟩]
      rw [e, putF_in n r, insZ, if_pos h]; simp
    · have e : stepN n (false, acc) x = (false, acc ++ [x]) := by unfold stepN; rw [if_neg (by simp [h])]
      rw [e, putF_go n r, insZ, if_neg h]; simp
theorem putF_is (n : Int) (l : List Int) : (if (putF n (decide (n ∈ l)) l).1 = true then (putF n (decide (n ∈ l)) l).2 else (putF n (decide (n ∈ l)) l).2 ++ [n]) = putZ l n := by
  unfold putZ
  by_cases h : n ∈ l
  · rw [if_pos h, decide_eq_true h, putF, putF_in n l]; simp
  · rw [if_neg h, decide_eq_false h]
    have := putF_go n l []
    rw [List.nil_append] at this
    exact this

set_option maxHeartbeats 2000000 in
set_option maxRecDepth 100000 in
theorem rput_any (v : Value) (l : List Int) (n : Int) (w : World) (h : Ns w v l) :
    Calls Tryz.prog 27 #[v, .int .i64 n] w (NewN w (putZ l n)) := by
  obtain ⟨i0, hi, hz0, hz1, hz2⟩ := info_parts bi_int
  have Hz := Lib.hid hz0; have Hs := Lib.hid hz1; have Hb := Lib.hid hz2; have Hi := Lib.hid hi
  clear hz0 hz1 hz2 hi
  obtain ⟨b0, hb0⟩ : ∃ b0, b0 = decide (n ∈ l) := ⟨_, rfl⟩
  have RI := Lib.hid (fun W (b : Below w.heap.size w W) => show Calls Tryz.prog 51 #[v, .int .i64 n] W (fun e w' => e = .returned (.bool b0) ∧ W = w') by rw [hb0]; exact rin_any v l n W (h.on b))
  have HPF := Lib.hid (show (if (putF n b0 l).1 = true then (putF n b0 l).2 else (putF n b0 l).2 ++ [n]) = putZ l n by rw [hb0]; exact putF_is n l)
  obtain ⟨⟨_, a, cap, g, off, rfl, hg, hc⟩, hl⟩ := h
  obtain ⟨N, hN⟩ : ∃ N, N = l.length := ⟨_, rfl⟩
  rw [← hN] at hg hc hl RI
  rw [← hN]
  have HN := Lib.hid hN
  have HC := Lib.hid hc
  have HG := Lib.hid hg
  have B1 := Lib.hid (show Below w.heap.size w (w.alloc (.cells #[] 3)) from (Below.refl _ _).alloc (Nat.le_refl _) _)
  clear hN hc hg hb0
  go_enter Tryz.func27, Tryz.ntmps27
  go_wp2_with fail
  refine (RI.out _ B1.out).mono ?_
  rintro e _ ⟨rfl, rfl⟩
  go_wp2_with fail
  go_loopw [5, 6, 15] (fun o' d' i' wr => ∃ (i m og oo oc : Nat) (d : Bool), i' = .int .i64 i ∧ i ≤ N ∧ m ≤ i + 1 ∧ Hid (d = false → m ≤ i) ∧ d' = .bool d ∧ o' = .slice (some ⟨og, oo, none⟩) m oc ∧ Hid ((putF n b0 (l.take i)).2.length = m ∧ (putF n b0 (l.take i)).1 = d) ∧ Sl wr w.heap.size 1 (.slice (some ⟨og, oo, none⟩) m oc) m (ic (putF n b0 (l.take i)).2) ∧ Below w.heap.size w wr) (fun _ _ i' _ => N - (RowKit.intOf i').toNat)
  case atStart => exact ⟨0, 0, _, _, _, b0, rfl, by omega, by omega, (fun _ => Nat.le_refl _), rfl, rfl, ⟨rfl, rfl⟩, Sl.lit w w.heap.size 1 0 #[] _ (Nat.le_refl _) (by decide) rfl, B1.out⟩
  case round =>
    obtain ⟨W0, rfl⟩ : ∃ W0, W0 = wr := ⟨_, rfl⟩
    obtain ⟨i, m, og, oo, oc, d, rfl, hi, hmi, hmd, rfl, rfl, hml, hs, hb⟩ := hrel
    have HML := Lib.hid hml.out; have HS := Lib.hid hs; have HB := Lib.hid hb; have HMD := Lib.hid hmd.out
    have hbz := hb.size
    by_cases hlt : i < N
    · obtain ⟨rfl, hgl⟩ := HG.out (by omega)
      obtain ⟨x, hx⟩ : ∃ x, l[i]? = some x := ⟨l[i]'(by have := HN.out; omega), List.getElem?_eq_getElem (by have := HN.out; omega)⟩
      have c0 := (hb.cell (p := ⟨g, off + i, none⟩) hgl).trans ((HC.out i (by omega)).trans (ic_at l i x hx))
      obtain ⟨F, hF⟩ : ∃ F, F = putF n b0 (l.take i) := ⟨_, rfl⟩
      have HST := Lib.hid (show putF n b0 (l.take (i + 1)) = stepN n F x by rw [List.take_add_one, hx, hF]; exact putF_snoc n b0 _ x)
      have HM2 := Lib.hid (show F.2.length = m ∧ F.1 = d by rw [hF]; exact HML.out)
      have HS2 := Lib.hid (show Sl W0 w.heap.size 1 (.slice (some ⟨og, oo, none⟩) m oc) m (ic F.2) by rw [hF]; exact HS.out)
      have hil : (i : Int) < N := by omega
      clear hx hml hs hb hF hmd HS HML
      cases d with
      | true =>
        have HQ := Lib.hid (show putF n b0 (l.take (i + 1)) = (true, F.2 ++ [x]) by rw [HST.out]; unfold stepN; rw [HM2.out.2, if_neg (by simp)])
        go_wp2_with (at_builtin; go_loud (refine wpList_append_sl2 _ rfl _ _ 38 rfl w.heap.size 3 i0 (.int .i64 0) 1 8 Tryz.underlying38 Hi.out Hz.out Hs.out Hb.out rfl (by decide) _ m _ rfl (HS2.out.alloc _) _ _ 1 _ rfl (Sl.lit W0 w.heap.size 1 1 #[_] _ hbz (by decide) rfl) (ic_one [x]) (by unfold maxLen; omega) (by omega) (by simp; omega) ?_; intro v5 w5 x5; obtain ⟨g5, o5, c5, rfl, -⟩ := x5.now.somewhere (by omega); have bb5 := Lib.hid ((HB.out.alloc hbz _).trans (x5.below (Nat.le_refl _) (by simp; omega))); have X5 := Lib.hid x5; clear x5))
        exact ⟨⟨i + 1, m + 1, g5, o5, c5, true, by simp, by omega, by omega, (fun h => by cases h), rfl, rfl, by rw [HQ.out]; exact ⟨by rw [List.length_append, HM2.out.1]; rfl, rfl⟩, by rw [HQ.out, ic_append]; exact X5.out.now, bb5.out⟩, by simp [RowKit.intOf]; omega⟩
      | false =>
        by_cases hxy : n < x
        · have e1 : decide (n < x) = true := by simpa using hxy
          have HQ := Lib.hid (show putF n b0 (l.take (i + 1)) = (true, F.2 ++ [n] ++ [x]) by rw [HST.out]; unfold stepN; rw [HM2.out.2, if_pos ⟨rfl, hxy⟩]; simp)
          have hm2 : m ≤ i := HMD.out rfl
          clear hxy
          go_wp2_with (first
            | (at_builtin; refine wpList_append_sl2 _ rfl _ _ 38 rfl w.heap.size 3 i0 (.int .i64 0) 1 8 Tryz.underlying38 Hi.out Hz.out Hs.out Hb.out rfl (by decide) _ m _ rfl (HS2.out.alloc _) _ _ 1 _ rfl (Sl.lit W0 w.heap.size 1 1 #[_] _ hbz (by decide) rfl) (ic_one [n]) (by unfold maxLen; omega) (by omega) (by simp; omega) ?_; intro v5 w5 x5; obtain ⟨g5, o5, c5, rfl, -⟩ := x5.now.somewhere (by omega); have bb5 := Lib.hid ((HB.out.alloc hbz _).trans (x5.below (Nat.le_refl _) (by simp; omega))); have zz5 := bb5.out.size; have X5 := Lib.hid x5; clear x5)
            | (at_builtin; refine wpList_append_sl2 _ rfl _ _ 38 rfl w.heap.size 3 i0 (.int .i64 0) 1 8 Tryz.underlying38 Hi.out Hz.out Hs.out Hb.out rfl (by decide) _ (m + 1) _ rfl (X5.out.now.alloc _) _ _ 1 _ rfl (Sl.lit w5 w.heap.size 1 1 #[_] _ zz5 (by decide) rfl) (ic_one [x]) (by unfold maxLen; omega) (by omega) (by simp; omega) ?_; intro v6 w6 x6; obtain ⟨g6, o6, c6, rfl, -⟩ := x6.now.somewhere (by omega); have bb6 := Lib.hid ((bb5.out.alloc zz5 _).trans (x6.below (Nat.le_refl _) (by simp; omega))); have X6 := Lib.hid x6; clear x6))
          exact ⟨⟨i + 1, m + 1 + 1, g6, o6, c6, true, by simp, by omega, by omega, (fun h => by cases h), rfl, rfl, by rw [HQ.out]; exact ⟨by rw [List.length_append, List.length_append, HM2.out.1]; rfl, rfl⟩, by rw [HQ.out, ic_append, ic_append]; exact X6.out.now, bb6.out⟩, by simp [RowKit.intOf]; omega⟩
        · have e1 : decide (n < x) = false := by simpa using hxy
          have HQ := Lib.hid (show putF n b0 (l.take (i + 1)) = (false, F.2 ++ [x]) by rw [HST.out]; unfold stepN; rw [HM2.out.2, if_neg (by simp [hxy])])
          have hm2 : m ≤ i := HMD.out rfl
          clear hxy
          go_wp2_with (at_builtin; go_loud (refine wpList_append_sl2 _ rfl _ _ 38 rfl w.heap.size 3 i0 (.int .i64 0) 1 8 Tryz.underlying38 Hi.out Hz.out Hs.out Hb.out rfl (by decide) _ m _ rfl (HS2.out.alloc _) _ _ 1 _ rfl (Sl.lit W0 w.heap.size 1 1 #[_] _ hbz (by decide) rfl) (ic_one [x]) (by unfold maxLen; omega) (by omega) (by simp; omega) ?_; intro v5 w5 x5; obtain ⟨g5, o5, c5, rfl, -⟩ := x5.now.somewhere (by omega); have bb5 := Lib.hid ((HB.out.alloc hbz _).trans (x5.below (Nat.le_refl _) (by simp; omega))); have X5 := Lib.hid x5; clear x5))
          exact ⟨⟨i + 1, m + 1, g5, o5, c5, false, by simp, by omega, by omega, (fun _ => by omega), rfl, rfl, by rw [HQ.out]; exact ⟨by rw [List.length_append, HM2.out.1]; rfl, rfl⟩, by rw [HQ.out, ic_append]; exact X5.out.now, bb5.out⟩, by simp [RowKit.intOf]; omega⟩
    · have hil : ¬ (i : Int) < N := by omega
      have hall : l.take i = l := List.take_of_length_le (by have := HN.out; omega)
      have HM2 := Lib.hid (show (putF n b0 l).2.length = m ∧ (putF n b0 l).1 = d by have := HML.out; rw [hall] at this; exact this)
      have HS2 := Lib.hid (show Sl W0 w.heap.size 1 (.slice (some ⟨og, oo, none⟩) m oc) m (ic (putF n b0 l).2) by have := HS.out; rw [hall] at this; exact this)
      clear hall hml hs hb HS HML
      cases d with
      | true =>
        have HQ := Lib.hid (show (putF n b0 l).2 = putZ l n by have := HPF.out; rw [HM2.out.2, if_pos rfl] at this; exact this)
        go_wp2_with fail
        go_ret
        exact ⟨_, rfl, by rw [← HQ.out, HM2.out.1]; exact HS2.out, HB.out⟩
      | false =>
        have HQ := Lib.hid (show (putF n b0 l).2 ++ [n] = putZ l n by have := HPF.out; rw [HM2.out.2, if_neg (by simp)] at this; exact this)
        go_wp2_with (at_builtin; go_loud (refine wpList_append_sl2 _ rfl _ _ 38 rfl w.heap.size 3 i0 (.int .i64 0) 1 8 Tryz.underlying38 Hi.out Hz.out Hs.out Hb.out rfl (by decide) _ m _ rfl (HS2.out.alloc _) _ _ 1 _ rfl (Sl.lit W0 w.heap.size 1 1 #[_] _ hbz (by decide) rfl) (ic_one [n]) (by unfold maxLen; omega) (by omega) (by simp; omega) ?_; intro v5 w5 x5; obtain ⟨g5, o5, c5, rfl, -⟩ := x5.now.somewhere (by omega); have bb5 := Lib.hid ((HB.out.alloc hbz _).trans (x5.below (Nat.le_refl _) (by simp; omega))); have X5 := Lib.hid x5; clear x5))
        go_ret
        exact ⟨_, rfl, by rw [← HQ.out, List.length_append, HM2.out.1, ic_append]; exact X5.out.now, bb5.out⟩
end Go.Proofs.YtefhnjepocbodaaGreatDoor

/- Slices only read, appended to one's own; slices in a slice. slices.Grow of nothing, slices.Concat, walked. -/
import Derived.Test.YtefhnjepocbodaaGreatDoorMSl3
import Derived.Lib.AppendZerosOnto
namespace Go.Proofs.YtefhnjepocbodaaGreatDoor
open Go.RowKit Go.Lib

section
variable {P : Program}
theorem run_append_none_rd (w : World) (base c : Nat) (t ty e : TypeId) (i : TypeInfo) (size : Nat) (ht : P.underlying t = some (.slice e)) (hi : P.info? e = some i) (v : Value) (n : Nat) (xs : List Value) (hown : Sl w base size v n xs) :
    (Builtin.append_ #[t, t] ty #[v, .slice none 0 c]).run P w = .ok v w := by
  rcases hown.2 with ⟨rfl, rfl⟩ | ⟨g, off, cap, rfl, _, _, hnc, _⟩
  · simp [Builtin.append_, run_underlying ht, sizeOf, typeInfo, hi, Builtin.lenOf, Builtin.firstCells]
  · simp [Builtin.append_, run_underlying ht, sizeOf, typeInfo, hi, Builtin.lenOf, Builtin.firstCells, hnc, storeCells]

/-- 'append(v, x..)', x a slice that is only read, for the walk. -/
theorem wpList_append_rd (w : World) {ops : Array Oper} {rest : List Oper} {o : Oper} {a : Act} {Q : Exit → Act → World → Prop} (hgd : o.guard = none) (s x : Operand) (t : TypeId)
    (ho : o.op = .call { callee := .builtin .append, args := #[s, x], argTypes := #[t, t] })
    (base : Nat) (e : TypeId) (i : TypeInfo) (z : Value) (size bytes : Nat) (ht : P.underlying t = some (.slice e)) (hi : P.info? e = some i) (hz : i.zero = some z)
    (hsize : i.size = size) (hby : i.bytes = bytes) (hzs : z.cells.size = size) (hsz : 0 < size)
    (v : Value) (n : Nat) (xs : List Value) (hs : a.eval s = v) (hown : Sl w base size v n xs)
    (xv : Value) (m : Nat) (news : List Value) (hx : a.eval x = xv) (hnew : Rd w size xv m news) (h1 : ∀ u ∈ news, u.oneCell' = true)
    (h63 : n + m ≤ maxLen) (hbytes : (n + m) * bytes ≤ 140737488355328) (hbase : base ≤ w.heap.size)
    (h : ∀ v' w', Ext base size w v n xs w' v' (n + m) (xs ++ news) → wpList P ops Q rest (a.put o.dst v') w') : wpList P ops Q (o :: rest) a w := by
  obtain ⟨hl, ax, cap, g, off, rfl, hg, hc⟩ := hnew
  cases ax with
  | none =>
    have hm : m = 0 := by
      rcases Nat.eq_zero_or_pos m with h0 | h0
      · exact h0
      · have := (hg h0).1; cases this
    subst hm
    have hn : news = [] := List.eq_nil_of_length_eq_zero (by omega)
    subst hn
    refine wpList_plain hgd fun K hK => ?_
    have hr := run_append_none_rd (P := P) w base cap t o.type e i size ht hi v n xs hown
    unfold Oper.wp execOp
    simp only [ho, resolve, invoke, builtin, Sem.run_bind, Sem.run_pure, Result.andThen_ok, List.map_toArray, List.map_cons, List.map_nil, hs, hx, hr]
    have := h v w
    rw [Nat.add_zero, List.append_nil] at this
    exact hK _ _ (this (Ext.refl hown))
  | some ad =>
    refine wpList_append_sl w hgd s x t ho base e i z size bytes ht hi hz hsize hby hzs hsz v n xs hs hown ad m cap news hx hl (fun j u hu => ?_) h1 h63 hbytes hbase h
    have hj : j < news.length := (List.getElem?_eq_some_iff.1 hu).1
    have hm : 0 < m := by
      rcases Nat.eq_zero_or_pos m with h0 | h0
      · subst h0; simp at hl; rw [hl] at hj; simp at hj
      · exact h0
    obtain ⟨he, _⟩ := hg hm
    obtain rfl : ad = ⟨g, off, none⟩ := Option.some.inj he
    rw [Addr.add_lit, hc j (by omega), hu]
end

/-- Slices in a slice, one cell each, only read. -/
def Rds (w : World) (v : Value) (ls : List (List Value)) : Prop :=
  ∃ a cap g off, v = .slice a ls.length cap ∧ (0 < ls.length → a = some ⟨g, off, none⟩ ∧ g < w.heap.size) ∧ ∀ j l, ls[j]? = some l → ∃ x, w.cell? ⟨g, off + j, none⟩ = some x ∧ Rd w 1 x l.length l
theorem rd_form {w : World} {size n : Nat} {v : Value} {xs : List Value} (h : Rd w size v n xs) : ∃ a cap, v = .slice a n cap := by
  obtain ⟨_, a, cap, _, _, hv, _⟩ := h
  exact ⟨a, cap, hv⟩
theorem flat_take (ls : List (List Value)) (i : Nat) (l : List Value) (h : ls[i]? = some l) : (ls.take (i + 1)).flatten = (ls.take i).flatten ++ l := by
  rw [List.take_add_one, h, List.flatten_append]; simp
theorem flat_take_le (ls : List (List Value)) (i : Nat) : (ls.take i).flatten.length ≤ ls.flatten.length := by
  have h : ls.flatten = (ls.take i).flatten ++ (ls.drop i).flatten := by rw [← List.flatten_append, List.take_append_drop]
  rw [h, List.length_append]; omega
end Go.Proofs.YtefhnjepocbodaaGreatDoor

namespace Go.Proofs.YtefhnjepocbodaaGreatDoor
open Go.RowKit Go.Lib

set_option maxHeartbeats 2000000 in
set_option maxRecDepth 100000 in
theorem growi_nil (n : Nat) (w : World) (hn : n ≤ 100000000) :
    Calls Tryz.prog 125 #[.slice none 0 0, .int .i64 n] w fun e w' => ∃ a c, e = .returned (.slice a 0 c) ∧ Sl w' w.heap.size 1 (.slice a 0 c) 0 [] ∧ Below w.heap.size w w' := by
  obtain ⟨i0, hi, hz0, hz1, hz2⟩ := info_parts bi_int
  have h1 : ¬ ((n : Int) < 0) := by omega
  by_cases hp : n = 0
  · subst hp
    go_enter Tryz.func125, Tryz.ntmps125
    go_wp2
    go_ret
    exact ⟨_, _, rfl, Sl.nil _ _ _, Below.refl _ _⟩
  · have hold : (Builtin.firstCells i0.size 0 (.slice none 0 0)).run Tryz.prog w.drew = .ok (([] : List Value).toArray) w.drew := run_firstCells_none w.drew i0.size 0 0 0
    have hrz : ∀ ty, _ := fun ty => Lib.run_append_grow_zeros (P := Tryz.prog) w 39 3 ty 3 i0 (.int .i64 0) .i64 .i64 Tryz.underlying39 Tryz.underlying3 hi hz0 none 0 0 [] hold n (by omega) (by omega) (by omega) (by omega) (by rw [hz2]; omega) (growslice_fits (by omega) (by rw [hz2]; omega))
    have hG := grownCap_ge w (0 + n) 0 3
    have hM := grownCap_le_maxLen w (0 + n) 0 3 (by unfold maxLen; omega)
    obtain ⟨G, hGe⟩ : ∃ G, G = grownCap w (0 + n) 0 3 := ⟨_, rfl⟩
    rw [← hGe] at hG hM hrz
    obtain ⟨cs, hcs⟩ : ∃ cs, cs = (([] : List Value).toArray ++ Builtin.zeroCells (Value.int .i64 0).cells n ++ Builtin.zeroCells (Value.int .i64 0).cells (G - (0 + n))) := ⟨_, rfl⟩
    rw [← hcs] at hrz
    have hsz : cs.size = G := by
      rw [hcs, Array.size_append, Array.size_append, size_zeroCells, size_zeroCells]
      show 0 + n * 1 + (G - (0 + n)) * 1 = G
      omega
    have hown := World.ownsRow_made (base := w.heap.size) (e := 3) (size := 1) w.drew cs G (Nat.le_refl _) hM (by rw [hsz, Nat.mul_one])
    have hsl := Sl.of_owns hown
    have hsl0 : Sl (w.drew.alloc (.cells cs 3)) w.heap.size 1 (.slice (some ⟨w.heap.size, 0, none⟩) 0 G) 0 [] := by
      refine ⟨rfl, .inr ⟨w.heap.size, 0, G, rfl, Nat.le_refl _, by (have h1 : (w.drew.alloc (.cells cs 3)).heap.size = w.drew.heap.size + 1 := by simp); rw [h1]; exact Nat.lt_succ_self _, by omega, hM, ?_, fun j hj => absurd hj (by omega)⟩⟩
      rcases hsl.2 with ⟨h, _⟩ | ⟨g', off', cap', he, _, _, _, _, hfree, _⟩
      · cases h
      · cases he
        exact hfree
    have hb : Below w.heap.size w (w.drew.alloc (.cells cs 3)) := ((Below.refl w.heap.size w).drew).alloc (Nat.le_refl _) _
    have hm63 : G ≤ 9223372036854775807 := by unfold maxLen at hM; exact hM
    have HS := Lib.hid hsl0
    have HB := Lib.hid hb
    have hG0 : n ≤ G := by omega
    have hn0 : (0 : Int) < n := by omega
    have hzc : cs.size = G := hsz
    clear hold hM hGe hcs hown hsl hsl0 hb hi hz0 hz1 hz2 hG hp hsz
    rw [show 0 + n = n by omega] at hrz
    go_enter Tryz.func125, Tryz.ntmps125
    go_wp2_with (at_builtin; refine Lib.wpList_append_run _ rfl _ _ _ _ rfl _ _ rfl rfl _ _ (hrz _) ?_)
    all_goals
      go_ret
      exact ⟨_, _, rfl, HS.out, HB.out⟩

set_option maxHeartbeats 4000000 in
set_option maxRecDepth 100000 in
theorem concati_any (v : Value) (ls : List (List Value)) (w : World) (h : Rds w v ls) (h1 : ∀ l ∈ ls, ∀ u ∈ l, u.oneCell' = true) (hn : ls.length ≤ 100000) (hm : ls.flatten.length ≤ 1000000) :
    Calls Tryz.prog 95 #[v] w fun e w' => ∃ a c, e = .returned (.slice a ls.flatten.length c) ∧ Sl w' w.heap.size 1 (.slice a ls.flatten.length c) ls.flatten.length ls.flatten ∧ Below w.heap.size w w' := by
  obtain ⟨i0, hi, hz0, hz1, hz2⟩ := info_parts bi_int
  have Hz := Lib.hid hz0; have Hs := Lib.hid hz1; have Hb := Lib.hid hz2; have Hi := Lib.hid hi
  clear hz0 hz1 hz2 hi
  obtain ⟨a, cap, g, off, rfl, hg, hc⟩ := h
  obtain ⟨N, hN⟩ : ∃ N, N = ls.length := ⟨_, rfl⟩
  obtain ⟨M, hM⟩ : ∃ M, M = ls.flatten.length := ⟨_, rfl⟩
  rw [← hN] at hg hn ⊢
  rw [← hM] at hm ⊢
  have HN := Lib.hid hN
  have HM := Lib.hid hM
  have HC := Lib.hid hc
  have HG := Lib.hid hg
  have H1 := Lib.hid h1
  have HL := Lib.hid (fun i => flat_take_le ls i)
  clear hN hM hc hg h1
  go_enter Tryz.func95, Tryz.ntmps95
  go_wp2_with fail
  go_loopw [3, 11] (fun s' i' wr => ∃ (i m : Nat), i' = .int .i64 i ∧ i ≤ N ∧ s' = .int .i64 m ∧ m ≤ M ∧ Hid (m = (ls.take i).flatten.length) ∧ w = wr) (fun _ i' _ => N - (RowKit.intOf i').toNat)
  case atStart => exact ⟨0, 0, rfl, by omega, rfl, by omega, rfl, rfl⟩
  case round =>
    obtain ⟨i, m, rfl, hi, rfl, hmM, hm2, rfl⟩ := hrel
    by_cases hlt : i < N
    · obtain ⟨rfl, hgl⟩ := HG.out (by omega)
      obtain ⟨l, hl⟩ : ∃ l, ls[i]? = some l := ⟨ls[i]'(by have := HN.out; omega), List.getElem?_eq_getElem (by have := HN.out; omega)⟩
      obtain ⟨x, hx, hr⟩ := HC.out i l hl
      obtain ⟨xa, xc, rfl⟩ := rd_form hr
      obtain ⟨L, hLe⟩ : ∃ L, L = l.length := ⟨_, rfl⟩
      rw [← hLe] at hx
      have HT := Lib.hid (show m + L = (ls.take (i + 1)).flatten.length by rw [flat_take ls i l hl, List.length_append, hm2.out, hLe])
      have hle : m + L ≤ M := by have h1 := HL.out (i + 1); have h2 := HM.out; have h3 := HT.out; omega
      have hil : (i : Int) < N := by omega
      have hw : wrap64 ((m : Int) + L) = m + L := by unfold wrap64; omega
      have h0 : ¬ ((m : Int) + L < 0) := by omega
      clear hl hr hLe hm2
      go_wp2_with fail
      exact ⟨⟨i + 1, m + L, by simp, by omega, by simp, by omega, HT.out, by trivial⟩, by simp [RowKit.intOf]; omega⟩
    · have hil : ¬ (i : Int) < N := by omega
      have hmm : m = M := by rw [hm2.out, List.take_of_length_le (by have := HN.out; omega), ← HM.out]
      subst hmm
      clear hm2
      go_wp2_with fail
      refine (growi_nil m w (by omega)).mono ?_
      rintro e w1 ⟨ga, gc, rfl, s1, b1⟩
      go_wp2_with fail
      go_loopw [6, 27] (fun p' i' wr => ∃ (i k : Nat) (pa : Option Addr) (pc : Nat), i' = .int .i64 i ∧ i ≤ N ∧ p' = .slice pa k pc ∧ k ≤ m ∧ Hid (k = (ls.take i).flatten.length) ∧ Sl wr w.heap.size 1 (.slice pa k pc) k (ls.take i).flatten ∧ Below w.heap.size w wr) (fun _ i' _ => N - (RowKit.intOf i').toNat)
      case atStart => exact ⟨0, 0, _, _, rfl, by omega, rfl, by omega, rfl, s1, b1⟩
      case round =>
        obtain ⟨W0, rfl⟩ : ∃ W0, W0 = wr := ⟨_, rfl⟩
        obtain ⟨i, k, pa, pc, rfl, hi, rfl, hkm, hk, hs, hb⟩ := hrel
        by_cases hlt : i < N
        · obtain ⟨rfl, hgl⟩ := HG.out (by omega)
          obtain ⟨l, hl⟩ : ∃ l, ls[i]? = some l := ⟨ls[i]'(by have := HN.out; omega), List.getElem?_eq_getElem (by have := HN.out; omega)⟩
          obtain ⟨x, hx, hr⟩ := HC.out i l hl
          have hx := (hb.cell (p := ⟨g, off + i, none⟩) hgl).trans hx
          have hr := hr.on hb
          obtain ⟨xa, xc, rfl⟩ := rd_form hr
          have h1c := H1.out l (List.mem_of_getElem? hl)
          have HT := Lib.hid (flat_take ls i l hl)
          have HT2 := Lib.hid (show k + l.length = (ls.take (i + 1)).flatten.length by rw [flat_take ls i l hl, List.length_append, hk.out])
          have hle : k + l.length ≤ m := by have h1 := HL.out (i + 1); have h2 := HM.out; have h3 := HT2.out; omega
          have hil : (i : Int) < N := by omega
          have HS := Lib.hid hs
          have HB := Lib.hid hb
          have hbz := hb.size
          clear hl hk hs hb s1 b1
          go_wp2_with (at_builtin; go_loud (refine wpList_append_rd _ rfl _ _ 39 rfl w.heap.size 3 i0 (.int .i64 0) 1 8 Tryz.underlying39 Hi.out Hz.out Hs.out Hb.out rfl (by decide) _ k _ rfl HS.out _ l.length l rfl hr h1c (by unfold maxLen; omega) (by omega) hbz ?_; intro v5 w5 x5; obtain ⟨a5, c5, rfl⟩ := x5.now.slice; have bb5 := Lib.hid (HB.out.trans (x5.below (Nat.le_refl _) hbz)); have X5 := Lib.hid x5.now; clear x5))
          exact ⟨⟨i + 1, k + l.length, a5, c5, by simp, by omega, rfl, by omega, HT2.out, by rw [HT.out]; exact X5.out, bb5.out⟩, by simp [RowKit.intOf]; omega⟩
        · have hil : ¬ (i : Int) < N := by omega
          have hall : ls.take i = ls := List.take_of_length_le (by have := HN.out; omega)
          have hkm2 : k = m := by rw [hk.out, hall, ← HM.out]
          subst hkm2
          have HF := Lib.hid (show Sl W0 w.heap.size 1 (.slice pa k pc) k ls.flatten by rw [hall] at hs; exact hs)
          clear hall hk hs
          go_wp2
          go_ret
          exact ⟨_, _, rfl, HF.out, hb⟩
end Go.Proofs.YtefhnjepocbodaaGreatDoor

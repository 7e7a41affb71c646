/- Layer 12: slices.Delete of one number, walked; without, whatever the list. Layer 12: the first label of an index. -/
import Derived.Test.YteheojiokbdgmaaGreatDoorMK3
import Derived.Lib.SliceRun
import Derived.Test.YteheojiokbdgmaaGreatDoorMU0
import Derived.Carry
namespace Go.Proofs.YteheojiokbdgmaaGreatDoor
open Go.RowKit Go.Lib

theorem ic_drop (l : List Int) (i j : Nat) : (ic (l.drop i))[j]? = (ic l)[i + j]? := by
  unfold ic
  rw [List.getElem?_map, List.getElem?_map, List.getElem?_drop]

set_option maxHeartbeats 4000000 in
set_option maxRecDepth 100000 in
theorem delete_one (base g off n c i : Nat) (l : List Int) (w : World) (hs : Sl w base 1 (.slice (some ⟨g, off, none⟩) n c) n (ic l)) (hi : i < n) :
    Calls Tryz.prog 46 #[.slice (some ⟨g, off, none⟩) n c, .int .i64 i, .int .i64 (i + 1)] w fun e w' => e = .returned (.slice (some ⟨g, off, none⟩) (n - 1) c) ∧ Sl w' base 1 (.slice (some ⟨g, off, none⟩) (n - 1) c) (n - 1) (ic (l.eraseIdx i)) ∧ Turn (fun k => k = g) w w' := by
  obtain ⟨i0, hi0, hz0, hz1, hz2⟩ := info_parts bi_int
  have hl : l.length = n := by have := hs.1; rw [ic_length] at this; omega
  rcases hs.2 with ⟨h0, _⟩ | ⟨g', off', cap', he, hbg, hg, hnc, hcm, hfree, hcell⟩
  · cases h0
  cases he
  have hcm2 : c ≤ 9223372036854775807 := by unfold maxLen at hcm; omega
  obtain ⟨news, hnews⟩ : ∃ news, news = ic (l.drop (i + 1)) := ⟨_, rfl⟩
  have hlen : news.length = n - (i + 1) := by rw [hnews, ic_length, List.length_drop, hl]
  have hget : ∀ t u, news[t]? = some u → w.cell? ⟨g, off + (i + 1 + t), none⟩ = some u := fun t u hu => by
    have ht := (List.getElem?_eq_some_iff.1 hu).1
    rw [hnews, ic_drop] at hu
    rw [← hu]
    exact hcell _ (by omega)
  obtain ⟨A, hA, hsrc⟩ : ∃ A : Addr, (if c = i + 1 then (some (⟨g, off, none⟩ : Addr)) else some ⟨g, off + (i + 1), none⟩) = some A ∧ (∀ t u, news[t]? = some u → w.drew.cell? (A.add t) = some u) := by
    by_cases h : c = i + 1
    · refine ⟨⟨g, off, none⟩, by simp [h], fun t u hu => ?_⟩
      have ht := (List.getElem?_eq_some_iff.1 hu).1
      omega
    · refine ⟨⟨g, off + (i + 1), none⟩, by simp [h], fun t u hu => ?_⟩
      rw [Addr.add_lit, Nat.add_assoc]
      exact hget t u hu
  have s1 := Lib.hid (show news.length = (n - (i + 1)) * 1 by rw [Nat.mul_one]; exact hlen)
  have s2 := Lib.hid (show ∀ u ∈ news, u.oneCell' = true by rw [hnews]; exact ic_one _)
  have s3 := Lib.hid (show ∀ t, t < news.length → (w.drew.cell? ⟨g, off + i * 1 + t, none⟩).isSome = true ∧ w.drew.frozen? ⟨g, off + i * 1 + t, none⟩ = false from fun t ht => by
    rw [Nat.mul_one, Nat.add_assoc]
    exact hfree (i + t) (by omega))
  obtain ⟨W1, hW1⟩ : ∃ W1, W1 = w.drew.setCells g (off + i * 1) news := ⟨_, rfl⟩
  have hsome : ∀ j, j < c → (W1.cell? ⟨g, off + j, none⟩).isSome = true := fun j hj => by
    rw [hW1]
    exact isSome_setCells g news _ _ (fun k hk => by rw [Nat.mul_one, Nat.add_assoc]; exact (hfree _ (by omega)).1) _ (hfree j (by omega)).1
  have hfro : ∀ j, j < c → W1.frozen? ⟨g, off + j, none⟩ = false := fun j hj => by
    rw [hW1, World.frozen?_setCells]; exact (hfree j (by omega)).2
  have hcl : ∀ ty, (Builtin.clear_ #[36] ty #[.slice (some ⟨g, off + (n - 1), none⟩) (n - (n - 1)) (c - (n - 1))]).run Tryz.prog W1 = .ok (.tuple #[]) (W1.setCells g (off + (n - 1)) (List.replicate (n - (n - 1)) (.int .i64 0))) :=
    fun ty => Lib.run_clear_slice W1 _ _ ty _ Tryz.underlying36 (fun _ => rfl) rfl rfl g (off + (n - 1)) _ _ (by omega) (fun t ht => by rw [Nat.add_assoc]; exact hsome _ (by omega)) (fun t ht => by rw [Nat.add_assoc]; exact hfro _ (by omega))
  have hn1 : n - (n - 1) = 1 := by omega
  rw [hn1] at hcl
  have hin : i + (n - (i + 1)) = n - 1 := by omega
  have hfin : Sl (W1.setCells g (off + (n - 1)) (List.replicate 1 (.int .i64 0))) base 1 (.slice (some ⟨g, off, none⟩) (n - 1) c) (n - 1) (ic (l.eraseIdx i)) := by
    refine ⟨by rw [ic_length, List.length_eraseIdx_of_lt (by omega)]; omega, .inr ⟨g, off, c, rfl, hbg, by rw [size_setCells, hW1, size_setCells]; exact hg, by omega, hcm, fun j hj => ⟨?_, ?_⟩, fun j hj => ?_⟩⟩
    · exact isSome_setCells g _ _ _ (fun k hk => by
        obtain rfl : k = 0 := by simpa using hk
        exact hsome (n - 1) (by omega)) _ (hsome j (by omega))
    · rw [World.frozen?_setCells]; exact hfro j (by omega)
    · rw [World.cell?_setCells_out g _ _ _ ⟨g, off + j, none⟩ (fun _ _ => by show off + j < off + (n - 1) ∨ _; omega), hW1]
      rcases Nat.lt_or_ge j i with hji | hji
      · rw [World.cell?_setCells_out g _ _ _ ⟨g, off + j, none⟩ (fun _ _ => by show off + j < off + i * 1 ∨ _; omega)]
        refine (hcell j (by omega)).trans ?_
        unfold ic
        rw [List.getElem?_map, List.getElem?_map, List.getElem?_eraseIdx, if_pos hji]
      · have := World.cell?_setCells_in g news (off + i * 1) w.drew (fun k hk => by rw [Nat.mul_one, Nat.add_assoc]; exact (hfree _ (by omega)).1) (j - i) (by omega)
        rw [show off + i * 1 + (j - i) = off + j by omega] at this
        rw [this, ← List.getElem?_eq_getElem, hnews, ic_drop]
        unfold ic
        rw [List.getElem?_map, List.getElem?_map, List.getElem?_eraseIdx, if_neg (by omega), show i + 1 + (j - i) = j + 1 by omega]
  have htu : Turn (fun k => k = g) w (W1.setCells g (off + (n - 1)) (List.replicate 1 (.int .i64 0))) := by
    rw [hW1]
    exact ((Turn.refl _ w).drew.trans (turn_cells _ _ _ _)).trans (turn_cells _ _ _ _)
  have FIN := Lib.hid hfin
  have TU := Lib.hid htu
  have HW := Lib.hid hW1
  have HS := Lib.hid hsrc
  have hic : i ≤ c := by omega
  have hjc : i + 1 ≤ c := by omega
  have hw1 : IntKind.i64.wrap ((i : Int) + 1) = (i : Int) + 1 := by rw [IntKind.wrap_i64]; omega
  have htn : ((i : Int) + 1).toNat = i + 1 := by omega
  have hb1 : (0 : Int) ≤ (i : Int) + 1 := by omega
  have hb2 : (i : Int) + 1 ≤ (n : Int) := by omega
  have hb3 : ¬ ((i : Int) = (i : Int) + 1) := by omega
  have hb4 : ¬ (c = n - 1) := by omega
  have hb5 : n - 1 ≤ n := by omega
  clear hs hfin htu hW1 hsrc hfree hcell hsome hfro hnews hlen hget hl
  go_enter Tryz.func46, Tryz.ntmps46
  go_wp2_with fail
  go_region_law (refine step_append_room rfl _ _ 36 rfl 3 i0 1 Tryz.underlying36 hi0 hz1 g off i c (by simp [Act.eval, Act.put]) A (n - (i + 1)) (c - (i + 1)) news (by simp [Act.eval, Act.put]) s1.out HS.out s2.out (by omega) s3.out ?_; rw [← HW.out, hin])
  go_wp2
  go_ret
  exact ⟨rfl, FIN.out, TU.out⟩

/-- Without a number. -/
def outZ (l : List Int) (n : Int) : List Int := l.filter fun y => decide (y ≠ n)
theorem outZ_mem (l : List Int) (n y : Int) : y ∈ outZ l n ↔ y ∈ l ∧ y ≠ n := by unfold outZ; simp
theorem outZ_up {l : List Int} (n : Int) (h : Up l) : Up (outZ l n) := List.Pairwise.filter _ h
theorem outZ_len (l : List Int) (n : Int) : (outZ l n).length ≤ l.length := List.length_filter_le _ _
theorem outZ_not {l : List Int} {n : Int} (h : n ∉ l) : outZ l n = l := by
  unfold outZ
  rw [List.filter_eq_self]
  intro y hy
  simp only [decide_eq_true_eq]
  exact fun e => h (e ▸ hy)
theorem erase_pos : ∀ (l : List Int) (n : Int), Up l → n ∈ l → l.eraseIdx (pos l n) = outZ l n
  | a :: l, n, hu, hn => by
    have hu' : Up l := (List.pairwise_cons.1 hu).2
    have ha := (List.pairwise_cons.1 hu).1
    rcases List.mem_cons.1 hn with rfl | hm
    · have hp : pos (n :: l) n = 0 := by
        unfold pos
        rw [List.length_eq_zero_iff, List.filter_eq_nil_iff]
        intro y hy
        rcases List.mem_cons.1 hy with rfl | hy
        · simp
        · have := ha y hy; simp; omega
      rw [hp, List.eraseIdx_cons_zero]
      have h1 : n ∉ l := fun e => by have := ha n e; omega
      unfold outZ
      rw [List.filter_cons_of_neg (by simp)]
      exact (outZ_not h1).symm
    · have hlt := ha n hm
      have hp : pos (a :: l) n = pos l n + 1 := by simp [pos, hlt]
      rw [hp, List.eraseIdx_cons_succ, erase_pos l n hu' hm]
      unfold outZ
      rw [List.filter_cons_of_pos (by simp; omega)]

theorem delete_any (base i : Nat) (v : Value) (l : List Int) (w : World) (hs : Sl w base 1 v l.length (ic l)) (hi : i < l.length) :
    Calls Tryz.prog 46 #[v, .int .i64 i, .int .i64 (i + 1)] w (LW w base v (l.eraseIdx i)) := by
  have hs0 := hs
  rcases hs.2 with ⟨h0, h1⟩ | ⟨g, off, c, rfl, hbg, hg, hnc, hcm, hfree, hcell⟩
  · omega
  · refine (delete_one base g off l.length c i l w hs0 hi).mono ?_
    rintro e w' ⟨rfl, h1, h2⟩
    refine ⟨_, rfl, by rw [List.length_eraseIdx_of_lt hi]; exact h1, h2.mono (fun k e => by rw [e]; rfl), fun k hk => .inl hk⟩

set_option maxHeartbeats 1000000 in
set_option maxRecDepth 100000 in
theorem without_any (base : Nat) (v : Value) (l : List Int) (x : Int) (w : World) (hs : Sl w base 1 v l.length (ic l)) (hu : Up l) (hn : l.length ≤ 100000) :
    Calls Tryz.prog 34 #[v, .int .i64 x] w (LW w base v (outZ l x)) := by
  have C := Lib.hid (search_any v l x w (Nc.of_sl hs hn) hu)
  by_cases hx : x ∈ l
  · rw [show decide (x ∈ l) = true by simpa using hx] at C
    have hpl : pos l x < l.length := (List.getElem?_eq_some_iff.1 ((pos_mem l x hu).1 hx)).1
    have D := Lib.hid (delete_any base (pos l x) v l w hs hpl)
    rw [erase_pos l x hu hx] at D
    obtain ⟨P, hP⟩ : ∃ P, P = pos l x := ⟨_, rfl⟩
    rw [← hP] at C D hpl
    have hw1 : IntKind.i64.wrap ((P : Int) + 1) = (P : Int) + 1 := by rw [IntKind.wrap_i64]; omega
    clear hs hu hx hP
    go_enter Tryz.func34, Tryz.ntmps34
    go_wp2_with fail
    refine C.out.mono ?_
    rintro e w1 ⟨rfl, rfl⟩
    go_wp2_with fail
    refine D.out.mono ?_
    rintro e w2 ⟨v2, rfl, s2, b2, o2⟩
    go_wp2
    go_ret
    exact ⟨_, rfl, s2, b2, o2⟩
  · rw [show decide (x ∈ l) = false by simpa using hx] at C
    have FIN := Lib.hid (show LW w base v (outZ l x) (.returned v) w from ⟨v, rfl, by rw [outZ_not hx]; exact hs, Turn.refl _ _, fun k hk => .inl hk⟩)
    clear hs hu hx
    go_enter Tryz.func34, Tryz.ntmps34
    go_wp2_with fail
    refine C.out.mono ?_
    rintro e w1 ⟨rfl, rfl⟩
    go_wp2
    go_ret
    exact FIN.out
end Go.Proofs.YteheojiokbdgmaaGreatDoor

namespace Go.Proofs.YteheojiokbdgmaaGreatDoor
open Go.RowKit Go.Lib

/-- An index: its block, and those of its two maps. -/
structure IxB (b mh ml : Nat) (va : Value) (w : World) : Prop where
  box : w.heap[b]? = some (.cells #[va, .map (some mh), .map (some ml)] 70)
  bh : b ≠ mh
  bl : b ≠ ml
  hl : mh ≠ ml
theorem zv_inner (w : World) : (zeroValue 66).run Tryz.prog w = .ok (.map none) w := Tryz.zeroValue66 w
theorem zv_list (w : World) : (zeroValue 36).run Tryz.prog w = .ok (.slice none 0 0) w := Tryz.zeroValue36 w
theorem zv_set (w : World) : (zeroValue 56).run Tryz.prog w = .ok (.slice none 0 0) w := Tryz.zeroValue56 w
theorem mapIs_lt {m clock : Nat} {es : List En} {w : World} (h : MapIs m es clock w) : m < w.heap.size := (Array.getElem?_eq_some_iff.1 h).1
theorem mapIsJ_lt {m clock : Nat} {es : List EnJ} {w : World} (h : MapIsJ m es clock w) : m < w.heap.size := (Array.getElem?_eq_some_iff.1 h).1
theorem lk_h (w : World) (mh ch : Nat) (k : ByteArray) (h : MapIs mh [] ch w) : (Instr.lookup 67 (.map (some mh)) (.string k) false).run Tryz.prog w = .ok (.map none) w :=
  run_look (P := Tryz.prog) Tryz.underlying67 Tryz.underlying9 (.map none) zv_inner h k false
theorem lk_i (w : World) (mi ci : Nat) (k : ByteArray) (h : MapIs mi [] ci w) : (Instr.lookup 66 (.map (some mi)) (.string k) false).run Tryz.prog w = .ok (.slice none 0 0) w :=
  run_look (P := Tryz.prog) Tryz.underlying66 Tryz.underlying9 (.slice none 0 0) zv_list h k false
theorem lk_l (w : World) (ml cl : Nat) (k : Int) (h : MapIsJ ml [] cl w) : (Instr.lookup 68 (.map (some ml)) (.int .i64 k) false).run Tryz.prog w = .ok (.slice none 0 0) w :=
  run_lookJ (P := Tryz.prog) Tryz.underlying68 Tryz.underlying3 (.slice none 0 0) zv_set h k false

theorem run_mapnil (w : World) : (binOp BinOp.eql 66 (.map none) (.map none)).run Tryz.prog w = .ok (.bool true) w := by
  have hu := run_underlying Tryz.underlying66
  have he : (Op.equal 66 (.map none) (.map none)).run Tryz.prog w = .ok true w := by
    show (Op.equalIn (9999 + 1) _ _ _).run _ _ = _
    unfold Op.equalIn
    simp only [Sem.run_bind, hu, Result.andThen]
    rfl
  simp [binOp, go_sem, he]

theorem st_h (w : World) (mh ch : Nat) (k : ByteArray) (v : Value) (h : MapIs mh [] ch w) : (Instr.mapUpdate 67 (.map (some mh)) (.string k) v).run Tryz.prog w = .ok () (World.putMap w mh [⟨k, v, ch⟩] (ch + 1)) :=
  run_store (P := Tryz.prog) Tryz.underlying67 Tryz.underlying9 h k v
theorem st_i (w : World) (mi ci : Nat) (k : ByteArray) (v : Value) (h : MapIs mi [] ci w) : (Instr.mapUpdate 66 (.map (some mi)) (.string k) v).run Tryz.prog w = .ok () (World.putMap w mi [⟨k, v, ci⟩] (ci + 1)) :=
  run_store (P := Tryz.prog) Tryz.underlying66 Tryz.underlying9 h k v
theorem st_l (w : World) (ml cl : Nat) (k : Int) (v : Value) (h : MapIsJ ml [] cl w) : (Instr.mapUpdate 68 (.map (some ml)) (.int .i64 k) v).run Tryz.prog w = .ok () (World.putMapJ w ml [⟨k, v, cl⟩] (cl + 1)) :=
  run_storeJ (P := Tryz.prog) Tryz.underlying68 Tryz.underlying3 h k v
/-- A map in a world whose block is as it was. -/
theorem MapIs.turn {S : Nat → Prop} {m c : Nat} {es : List En} {w w' : World} (h : MapIs m es c w) (t : Turn S w w') (hS : ¬ S m) : MapIs m es c w' := (t.block m (mapIs_lt h) hS).trans h
theorem MapIsJ.turn {S : Nat → Prop} {m c : Nat} {es : List EnJ} {w w' : World} (h : MapIsJ m es c w) (t : Turn S w w') (hS : ¬ S m) : MapIsJ m es c w' := (t.block m (mapIsJ_lt h) hS).trans h

theorem sl_turnT {S : Nat → Prop} {w w' : World} {base size n : Nat} {v : Value} {xs : List Value} (h : Sl w base size v n xs) (t : Turn S w w') (hv : ∀ k, v.ownBlock = some k → ¬ S k) : Sl w' base size v n xs :=
  h.same t.size fun k hk => t.block k (h.lt k hk).2 (hv k hk)
theorem turn_then {S S' : Nat → Prop} {a b c : World} (h : Turn S a b) (k : Turn S' b c) (hs : ∀ i, i < a.heap.size → S' i → S i) : Turn S a c :=
  ⟨k.os.trans h.os, k.tape.trans h.tape, k.output.trans h.output, Nat.le_trans h.size k.size, fun i hi hr => (k.block i (Nat.lt_of_lt_of_le hi h.size) (fun e => hr (hs i hi e))).trans (h.block i hi hr)⟩

set_option maxHeartbeats 2000000 in
set_option maxRecDepth 100000 in
theorem addp_first (b mh ml ch cl : Nat) (va : Value) (n : Int) (x y : List UInt8) (w : World) (h : IxB b mh ml va w) (hmh : MapIs mh [] ch w) (hml : MapIsJ ml [] cl w) :
    Calls Tryz.prog 33 #[.pointer (some ⟨b, 0, none⟩), .int .i64 n, .agg #[.string (bs x), .string (bs y)]] w fun e w' => e = .returned (.tuple #[]) ∧ ∃ mi c1 c2 vl, w.heap.size ≤ mi ∧ MapIs mh [⟨bs x, .map (some mi), ch⟩] c1 w' ∧ MapIs mi [⟨bs y, vl, 0⟩] c2 w' ∧ Nc w' vl [n] ∧ Turn (fun k => k = mh ∨ k = ml) w w' := by
  have hbw : b < w.heap.size := (Array.getElem?_eq_some_iff.1 h.box).1
  have c1 : w.cell? ⟨b, 1, none⟩ = some (.map (some mh)) := Lib.cell_of_heap h.box 1
  have c2 : w.cell? ⟨b, 2, none⟩ = some (.map (some ml)) := Lib.cell_of_heap h.box 2
  obtain ⟨P, hP⟩ : ∃ P : Obj, P = .cells #[.string (bs x), .string (bs y)] 58 := ⟨_, rfl⟩
  have hz1 : (w.alloc P).heap.size = w.heap.size + 1 := by simp
  have hmw := mapIs_lt hmh
  have hlw := mapIsJ_lt hml
  have m1 : MapIs mh [] ch (w.alloc P).drew := (Below.heap_alloc w P mh hmw).trans hmh
  have hl1 := lk_h _ mh ch (bs x) m1
  rw [hP] at hl1 hz1
  go_enter Tryz.func33, Tryz.ntmps33
  go_wp2_with fail
  go_region
  have e1 := fun W => run_mapnil W
  have hmm := @run_makeMap Tryz.prog
  go_wp2_with fail
  rw [← hP] at hz1
  obtain ⟨W2, hW2⟩ : ∃ W2, W2 = ((w.alloc P).alloc (.map #[] 0)).drew := ⟨_, rfl⟩
  have t2 : Turn (fun _ => False) w W2 := by rw [hW2]; exact (((Turn.refl _ w).alloc P).alloc _).drew
  have p2 : W2.heap[w.heap.size]? = some P := by rw [hW2]; exact (Below.heap_alloc _ _ _ (by omega)).trans (heap_alloc_new w P)
  have i2 : MapIs (w.heap.size + 1) [] 0 W2 := by
    have := heap_alloc_new (w.alloc P) (.map #[] 0)
    rw [hz1] at this
    rw [hW2]; exact this
  rw [hP] at hW2 p2
  have s2 : W2.heap.size = w.heap.size + 2 := by rw [hW2, ← hP]; show ((w.alloc P).alloc (.map #[] 0)).heap.size = _; simp
  have h2 := hmh.turn t2 id
  have l2 := hml.turn t2 id
  have b1 := (t2.cell (p := ⟨b, 1, none⟩) hbw id).trans c1
  have b2 := (t2.cell (p := ⟨b, 2, none⟩) hbw id).trans c2
  have p0 : W2.cell? ⟨w.heap.size, 0, none⟩ = some (.string (bs x)) := Lib.cell_of_heap p2 0
  have p1 : W2.cell? ⟨w.heap.size, 1, none⟩ = some (.string (bs y)) := Lib.cell_of_heap p2 1
  rw [← hW2]
  have hst := st_h W2.drew mh ch (bs x) (.map (some (w.heap.size + 1))) h2
  obtain ⟨W3, hW3⟩ : ∃ W3, W3 = World.putMap W2.drew mh [⟨bs x, .map (some (w.heap.size + 1)), ch⟩] (ch + 1) := ⟨_, rfl⟩
  have t3 : Turn (fun k => k = mh) W2 W3 := by rw [hW3]; exact (Turn.refl _ W2).drew.trans (turn_put (S := fun i => i = mh) rfl _ _)
  have h3 : MapIs mh [⟨bs x, .map (some (w.heap.size + 1)), ch⟩] (ch + 1) W3 := by rw [hW3]; exact mapIs_put (w := W2.drew) (mapIs_lt h2) _ _
  rw [← hW3] at hst
  clear hW2 hW3 hP P hl1 m1 hz1 e1 hmm c1 c2
  go_region
  clear hst
  have i3 := i2.turn t3 (by show ¬ w.heap.size + 1 = mh; omega)
  have l3 := l2.turn t3 (fun e => h.hl e.symm)
  have d2 := (t3.cell (p := ⟨b, 2, none⟩) (by show b < W2.heap.size; omega) h.bh).trans b2
  have q0 := (t3.cell (p := ⟨w.heap.size, 0, none⟩) (by show w.heap.size < W2.heap.size; omega) (by show ¬ w.heap.size = mh; omega)).trans p0
  have q1 := (t3.cell (p := ⟨w.heap.size, 1, none⟩) (by show w.heap.size < W2.heap.size; omega) (by show ¬ w.heap.size = mh; omega)).trans p1
  have s3 := t3.size
  have hl3 := lk_i W3 _ _ (bs y) i3
  have T3 := Lib.hid ((t2.mono (S' := fun k => k = mh ∨ k = ml) (fun k hk => hk.elim)).trans (t3.mono (fun k hk => .inl hk)))
  clear b1 b2 p0 p1 p2 h2 l2 i2 t2 t3
  go_wp2_with fail
  refine (with_nil n _).mono ?_
  rintro e w4 ⟨v7, rfl, s7, b7⟩
  obtain ⟨a7, c7, e7⟩ := s7.slice
  have e7 : v7 = .slice a7 1 c7 := e7
  subst e7
  have i4 : MapIs (w.heap.size + 1) [] 0 w4 := (b7.block _ (by omega)).trans i3
  have hl4 := lk_i w4 _ _ (bs y) i4
  have hst := st_i w4 _ _ (bs y) (.slice a7 1 c7) i4
  obtain ⟨W5, hW5⟩ : ∃ W5, W5 = World.putMap w4 (w.heap.size + 1) [⟨bs y, .slice a7 1 c7, 0⟩] (0 + 1) := ⟨_, rfl⟩
  have z7 := b7.size
  have t5 : Turn (fun k => k = w.heap.size + 1) w4 W5 := by rw [hW5]; exact turn_put (S := fun i => i = w.heap.size + 1) rfl _ _
  have h5 : MapIs (w.heap.size + 1) [⟨bs y, .slice a7 1 c7, 0⟩] (0 + 1) W5 := by rw [hW5]; exact mapIs_put (w := w4) (by omega) _ _
  have lx : ∀ k, (Value.slice a7 1 c7).ownBlock = some k → w.heap.size + 2 ≤ k := fun k hk => by have := (s7.lt k hk).1; omega
  have s5 : Sl W5 w.heap.size 1 (.slice a7 1 c7) 1 (ic [n]) := sl_turnT (s7.mono (by omega)) t5 (fun k hk => by have := lx k hk; omega)
  rw [← hW5] at hst
  have q04 := (b7.cell (p := ⟨w.heap.size, 0, none⟩) (by show w.heap.size < W3.heap.size; omega)).trans q0
  have q14 := (b7.cell (p := ⟨w.heap.size, 1, none⟩) (by show w.heap.size < W3.heap.size; omega)).trans q1
  have d24 := (b7.cell (p := ⟨b, 2, none⟩) (by show b < W3.heap.size; omega)).trans d2
  have q05 := (t5.cell (p := ⟨w.heap.size, 0, none⟩) (by show w.heap.size < w4.heap.size; omega) (by show ¬ w.heap.size = w.heap.size + 1; omega)).trans q04
  have q15 := (t5.cell (p := ⟨w.heap.size, 1, none⟩) (by show w.heap.size < w4.heap.size; omega) (by show ¬ w.heap.size = w.heap.size + 1; omega)).trans q14
  have d25 := (t5.cell (p := ⟨b, 2, none⟩) (by show b < w4.heap.size; omega) (by show ¬ b = w.heap.size + 1; omega)).trans d24
  have h35 : MapIs mh [⟨bs x, .map (some (w.heap.size + 1)), ch⟩] (ch + 1) W5 := (h3.turn (Turn.of_below (S := fun _ => False) b7) id).turn t5 (by show ¬ mh = w.heap.size + 1; omega)
  have l5 : MapIsJ ml [] cl W5 := (l3.turn (Turn.of_below (S := fun _ => False) b7) id).turn t5 (by show ¬ ml = w.heap.size + 1; omega)
  have T5 : Turn (fun k => k = mh ∨ k = ml) w W5 := turn_then (T3.out.trans (Turn.of_below b7)) t5 (fun k hk e => by omega)
  have z5 := t5.size
  have e2 : ((1 : Int) == 0) = false := rfl
  have hl5 := lk_l W5.drew ml cl n l5
  obtain ⟨i0, hi, hz0, hz1, hz2⟩ := info_parts zc_pair
  have Hz := Lib.hid hz0; have Hs := Lib.hid hz1; have Hb := Lib.hid hz2; have Hi := Lib.hid hi
  clear hz0 hz1 hz2 hi hW5
  have hbW : b < W5.heap.size := by omega
  have hpW : w.heap.size < W5.heap.size := by omega
  have BA : Below W5.heap.size W5 (W5.alloc (.cells #[.string (bs x), .string (bs y)] 58)).drew := ((Below.refl _ _).alloc (Nat.le_refl _) _).drew
  have KX := Lib.hid (fun W (B : Below W5.heap.size W5 W) => show W.cell? ⟨b, 2, none⟩ = some (.map (some ml)) ∧ W.cell? ⟨w.heap.size, 0, none⟩ = some (.string (bs x)) ∧ W.cell? ⟨w.heap.size, 1, none⟩ = some (.string (bs y)) from ⟨(B.cell (p := ⟨b, 2, none⟩) hbW).trans d25, (B.cell (p := ⟨w.heap.size, 0, none⟩) hpW).trans q05, (B.cell (p := ⟨w.heap.size, 1, none⟩) hpW).trans q15⟩)
  have hl5A := lk_l _ ml cl n (show MapIsJ ml [] cl (W5.alloc (.cells #[.string (bs x), .string (bs y)] 58)).drew from l5.turn (Turn.of_below (S := fun _ => False) BA) id)
  have KJ := Lib.hid (fun W6 (v : Value) (B : Below W5.heap.size W5 W6) => show (World.putMapJ W6 ml [⟨n, v, cl⟩] (cl + 1)).cell? ⟨b, 2, none⟩ = some (.map (some ml)) ∧ (World.putMapJ W6 ml [⟨n, v, cl⟩] (cl + 1)).cell? ⟨w.heap.size, 0, none⟩ = some (.string (bs x)) ∧ (World.putMapJ W6 ml [⟨n, v, cl⟩] (cl + 1)).cell? ⟨w.heap.size, 1, none⟩ = some (.string (bs y)) from by
    have tj : Turn (fun k => k = ml) W6 (World.putMapJ W6 ml [⟨n, v, cl⟩] (cl + 1)) := turn_putJ (S := fun i => i = ml) rfl _ _
    have hb6 := B.size
    obtain ⟨r0, r1, r2⟩ := KX.out W6 B
    exact ⟨(tj.cell (p := ⟨b, 2, none⟩) (by show b < W6.heap.size; omega) h.bl).trans r0, (tj.cell (p := ⟨w.heap.size, 0, none⟩) (by show w.heap.size < W6.heap.size; omega) (by show ¬ w.heap.size = ml; omega)).trans r1, (tj.cell (p := ⟨w.heap.size, 1, none⟩) (by show w.heap.size < W6.heap.size; omega) (by show ¬ w.heap.size = ml; omega)).trans r2⟩)
  have kA := KX.out _ BA
  have k5 := KX.out _ (Below.refl _ _).drew
  have SA := Lib.hid (show Sl (W5.alloc (.cells #[.string (bs x), .string (bs y)] 58)).drew W5.heap.size 2 (.slice (some ⟨W5.heap.size, 0, none⟩) 1 1) 1 (prc [⟨x, y⟩]) from Sl.lit W5 W5.heap.size 2 1 #[.string (bs x), .string (bs y)] _ (Nat.le_refl _) (by decide) rfl)
  have zA : W5.heap.size ≤ (W5.alloc (.cells #[.string (bs x), .string (bs y)] 58)).drew.heap.size := BA.size
  have LM := Lib.hid (fun W v (B : Below W5.heap.size W5 W) => st_l W ml cl n v ((Turn.of_below (S := fun _ => False) B).block ml (mapIsJ_lt l5) id |>.trans l5))
  have FIN := Lib.hid (fun W6 v (B : Below W5.heap.size W5 W6) => show ∃ mi c1 c2 vl, w.heap.size ≤ mi ∧ MapIs mh [⟨bs x, .map (some mi), ch⟩] c1 (World.putMapJ W6 ml [⟨n, v, cl⟩] (cl + 1)) ∧ MapIs mi [⟨bs y, vl, 0⟩] c2 (World.putMapJ W6 ml [⟨n, v, cl⟩] (cl + 1)) ∧ Nc (World.putMapJ W6 ml [⟨n, v, cl⟩] (cl + 1)) vl [n] ∧ Turn (fun k => k = mh ∨ k = ml) w (World.putMapJ W6 ml [⟨n, v, cl⟩] (cl + 1)) from by
    have tj : Turn (fun k => k = ml) W6 (World.putMapJ W6 ml [⟨n, v, cl⟩] (cl + 1)) := turn_putJ (S := fun i => i = ml) rfl _ _
    have tb : Turn (fun _ => False) W5 W6 := Turn.of_below B
    refine ⟨w.heap.size + 1, ch + 1, 1, .slice a7 1 c7, by omega, (h35.turn tb id).turn tj h.hl, (h5.turn tb id).turn tj (by show ¬ w.heap.size + 1 = ml; omega), Nc.of_sl (base := w.heap.size) (sl_turnT (sl_turnT s5 tb (fun k hk e => e)) tj (fun k hk => by have := lx k hk; show ¬ k = ml; omega)) (by simp), (T5.trans (Turn.of_below B)).trans (tj.mono (fun k hk => .inr hk))⟩)
  clear q0 q1 d2 hl3 i3 l3 h3 i4 h35 h5 s5 T5 T3
  go_wp2_with fail
  go_region_held3 (fun W => W.cell? ⟨b, 2, none⟩ = some (.map (some ml)) ∧ W.cell? ⟨w.heap.size, 0, none⟩ = some (.string (bs x)) ∧ W.cell? ⟨w.heap.size, 1, none⟩ = some (.string (bs y)))
    (first | exact k5 | exact kA | exact k6 | exact k7 | assumption | fail)
    (first
      | (refine step_append_sl rfl (.tmp 53) (.tmp 55) 56 rfl W5.heap.size 58 i0 (.agg #[.string ⟨#[]⟩, .string ⟨#[]⟩]) 2 32 Tryz.underlying56 Hi.out Hz.out Hs.out Hb.out rfl (by decide) (.slice none 0 0) 0 [] (by simp [Act.eval]) (Sl.nil _ _ _) ⟨W5.heap.size, 0, none⟩ 1 1 (prc [⟨x, y⟩]) (by simp [Act.eval]) rfl SA.out.cells (prc_one _) (by decide) (by decide) zA ?_; intro v6 w6 x6; have B6 := BA.trans (x6.below (Nat.le_refl _) zA); have k6 := KX.out _ B6; have k7 := KJ.out w6 v6 B6; have L6 := LM.out w6 v6 B6)
      | fail)
  all_goals go_wp2
  all_goals go_end0
  all_goals exact ⟨rfl, FIN.out _ _ B6⟩
end Go.Proofs.YteheojiokbdgmaaGreatDoor

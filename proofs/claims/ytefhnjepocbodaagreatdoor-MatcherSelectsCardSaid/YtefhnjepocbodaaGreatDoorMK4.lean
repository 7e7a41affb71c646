/- Layer 12: with, walked for every list. Layer 12: slices.Delete of one number, walked; without, whatever the list. -/
import Derived.Test.YtefhnjepocbodaaGreatDoorMU0
import Derived.Lib.SliceRun
namespace Go.Proofs.YtefhnjepocbodaaGreatDoor
open Go.RowKit Go.Lib

theorem insZ_pos : ∀ (l : List Int) (n : Int), Up l → n ∉ l → insZ n l = l.take (pos l n) ++ n :: l.drop (pos l n)
  | [], n, _, _ => by simp [insZ, pos]
  | a :: l, n, hu, hn => by
    have hu' : Up l := (List.pairwise_cons.1 hu).2
    have ha := (List.pairwise_cons.1 hu).1
    have hne : n ≠ a := fun e => hn (by simp [e])
    unfold insZ
    by_cases h : n < a
    · rw [if_pos h]
      have hp : pos (a :: l) n = 0 := by
        unfold pos
        rw [List.length_eq_zero_iff, List.filter_eq_nil_iff]
        intro y hy
        rcases List.mem_cons.1 hy with rfl | hy
        · simp; omega
        · have := ha y hy; simp; omega
      rw [hp]; rfl
    · rw [if_neg h]
      have hp : pos (a :: l) n = pos l n + 1 := by simp [pos, show a < n by omega]
      rw [hp, insZ_pos l n hu' (fun m => hn (by simp [m]))]
      rfl
theorem putZ_in {l : List Int} {n : Int} (h : n ∈ l) : putZ l n = l := by unfold putZ; rw [if_pos h]
theorem putZ_out {l : List Int} {n : Int} (hu : Up l) (h : n ∉ l) : putZ l n = l.take (pos l n) ++ n :: l.drop (pos l n) := by unfold putZ; rw [if_neg h, insZ_pos l n hu h]

/-- A list comes, in its own memory or in new memory; nothing else is turned. -/
def LW (w : World) (base : Nat) (v : Value) (l : List Int) (e : Ending) (w' : World) : Prop :=
  ∃ v', e = .returned v' ∧ Sl w' base 1 v' l.length (ic l) ∧ Turn (fun k => v.ownBlock = some k) w w' ∧ ∀ k, v'.ownBlock = some k → v.ownBlock = some k ∨ w.heap.size ≤ k

theorem insert_any (base i b : Nat) (v : Value) (l : List Int) (x : Int) (w : World) (hs : Sl w base 1 v l.length (ic l)) (hi : i ≤ l.length) (hn : l.length ≤ 1000000) (hbase : base ≤ w.heap.size) (hv : w.heap[b]? = some (.cells #[.int .i64 x] 3)) (hb : v.ownBlock ≠ some b) :
    Calls Tryz.prog 53 #[v, .int .i64 i, .slice (some ⟨b, 0, none⟩) 1 1] w (LW w base v (l.take i ++ x :: l.drop i)) := by
  have hlen : (l.take i ++ x :: l.drop i).length = l.length + 1 := by simp; omega
  by_cases hie : i = l.length
  · subst hie
    refine (insert_end base l.length b v l x w hs hn hbase hv).mono ?_
    rintro e w' ⟨v', rfl, hx⟩
    have he : l.take l.length ++ x :: l.drop l.length = l ++ [x] := by rw [List.take_length, List.drop_length]
    refine ⟨v', rfl, ?_, ⟨hx.grown.os, hx.grown.tape, hx.grown.output, hx.grown.size, fun k hk hne => hx.grown.block k hk fun e => hne e.symm⟩, fun k hk => ?_⟩
    · rw [he, List.length_append, List.length_singleton]; exact hx.now
    · rcases hx.alias with ⟨a, cap, h1, h2, _⟩ | h
      · exact .inl (by rw [h1]; rw [h2] at hk; cases a <;> exact hk)
      · exact .inr (h k hk)
  · have hs0 := hs
    rcases hs.2 with ⟨h0, h1⟩ | ⟨g, off, c, rfl, hbg, hg, hnc, hcm, hfree, hcell⟩
    · omega
    · by_cases hroom : l.length + 1 ≤ c
      · refine (insert_room base g off l.length c i b l x w hs0 (by omega) hroom hv (fun e => hb (by rw [e]; rfl))).mono ?_
        rintro e w' ⟨rfl, h1, h2⟩
        refine ⟨_, rfl, by rw [hlen]; exact h1, h2.mono (fun k e => by rw [e]; rfl), fun k hk => .inl ?_⟩
        exact hk
      · obtain rfl : c = l.length := by omega
        refine (insert_grow base g off l.length i b l x w hs0 (by omega) hn hv).mono ?_
        rintro e w' ⟨c, rfl, h1, h2⟩
        refine ⟨_, rfl, by rw [hlen]; exact h1.mono hbase, (Turn.of_below h2).mono (fun _ e => e), fun k hk => .inr ?_⟩
        cases hk
        exact Nat.le_refl _

set_option maxHeartbeats 1000000 in
set_option maxRecDepth 100000 in
theorem with_any (base : Nat) (v : Value) (l : List Int) (x : Int) (w : World) (hs : Sl w base 1 v l.length (ic l)) (hu : Up l) (hn : l.length ≤ 100000) (hbase : base ≤ w.heap.size) :
    Calls Tryz.prog 29 #[v, .int .i64 x] w (LW w base v (putZ l x)) := by
  have C := Lib.hid (search_any v l x w (Nc.of_sl hs hn) hu)
  by_cases hx : x ∈ l
  · rw [show decide (x ∈ l) = true by simpa using hx] at C
    have FIN := Lib.hid (show LW w base v (putZ l x) (.returned v) w from ⟨v, rfl, by rw [putZ_in hx]; exact hs, Turn.refl _ _, fun k hk => .inl hk⟩)
    clear hs hu hx
    go_enter Tryz.func29, Tryz.ntmps29
    go_wp2_with fail
    refine C.out.mono ?_
    rintro e w1 ⟨rfl, rfl⟩
    go_wp2
    go_ret
    exact FIN.out
  · rw [show decide (x ∈ l) = false by simpa using hx] at C
    have hpl := pos_le l x
    have hout := putZ_out hu hx
    obtain ⟨P, hP⟩ : ∃ P, P = pos l x := ⟨_, rfl⟩
    rw [← hP] at C hpl hout
    obtain ⟨W1, hW⟩ : ∃ W1, W1 = w.alloc (.cells #[.int .i64 x] 3) := ⟨_, rfl⟩
    have t1 : Turn (fun k => v.ownBlock = some k) w W1 := by rw [hW]; exact (Turn.refl _ _).alloc _
    have D := Lib.hid (insert_any base P w.heap.size v l x W1 (by rw [hW]; exact hs.alloc _) hpl (by omega) (Nat.le_trans hbase t1.size) (by rw [hW]; exact heap_alloc_new w _) (fun e => by have := (hs.lt _ e).2; omega))
    rw [← hout] at D
    have T1 := Lib.hid t1
    rw [hW] at D T1
    clear hs hu hx hP hout hW t1
    go_enter Tryz.func29, Tryz.ntmps29
    go_wp2_with fail
    refine C.out.mono ?_
    rintro e w1 ⟨rfl, rfl⟩
    go_wp2_with fail
    refine D.out.mono ?_
    rintro e w2 ⟨v2, rfl, s2, b2, o2⟩
    go_wp2
    go_ret
    exact ⟨_, rfl, s2, T1.out.trans b2, fun k hk => (o2 k hk).imp id fun h => Nat.le_trans T1.out.size h⟩
end Go.Proofs.YtefhnjepocbodaaGreatDoor

namespace Go.Proofs.YtefhnjepocbodaaGreatDoor
open Go.RowKit Go.Lib

theorem ic_drop (l : List Int) (i j : Nat) : (ic (l.drop i))[j]? = (ic l)[i + j]? := by
  unfold ic
  rw [List.getElem?_map, List.getElem?_map, List.getElem?_drop]

set_option maxHeartbeats 4000000 in
set_option maxRecDepth 100000 in
theorem delete_one (base g off n c i : Nat) (l : List Int) (w : World) (hs : Sl w base 1 (.slice (some ⟨g, off, none⟩) n c) n (ic l)) (hi : i < n) :
    Calls Tryz.prog 54 #[.slice (some ⟨g, off, none⟩) n c, .int .i64 i, .int .i64 (i + 1)] w fun e w' => e = .returned (.slice (some ⟨g, off, none⟩) (n - 1) c) ∧ Sl w' base 1 (.slice (some ⟨g, off, none⟩) (n - 1) c) (n - 1) (ic (l.eraseIdx i)) ∧ Turn (fun k => k = g) w w' := by
  obtain ⟨i0, hi0, hz0, hz1, hz2⟩ := info_parts bi_int
  have hl : l.length = n := by have := hs.1; rw [ic_length] at this; omega
  rcases hs.2 with ⟨h0, _⟩ | ⟨g', off', cap', he, hbg, hg, hnc, hcm, hfree, hcell⟩
  · cases h0
  cases he
  have hcm2 : c ≤ 9223372036854775807 := by unfold maxLen at hcm; omega
  obtain ⟨news, hnews⟩ : ∃ news, news = ic (l.drop (i + 1)) := ⟨_, rfl⟩
  have hlen : news.length = n - (i + 1) := by rw [hnews, ic_length, List.length_drop, hl]
  have hget : ∀ t u, news[t]? = some u → w.cell? ⟨g, off + (i + 1 + t), none⟩ = some u := fun t u hu => by
    have ht := (List.getElem?_eq_some_iff.1 hu).1
    rw [hnews, ic_drop] at hu
    rw [← hu]
    exact hcell _ (by omega)
  obtain ⟨A, hA, hsrc⟩ : ∃ A : Addr, (if c = i + 1 then (some (⟨g, off, none⟩ : Addr)) else some ⟨g, off + (i + 1), none⟩) = some A ∧ (∀ t u, news[t]? = some u → w.drew.cell? (A.add t) = some u) := by
    by_cases h : c = i + 1
    · refine ⟨⟨g, off, none⟩, by simp [h], fun t u hu => ?_⟩
      have ht := (List.getElem?_eq_some_iff.1 hu).1
      omega
    · refine ⟨⟨g, off + (i + 1), none⟩, by simp [h], fun t u hu => ?_⟩
      rw [Addr.add_lit, Nat.add_assoc]
      exact hget t u hu
  have s1 := Lib.hid (show news.length = (n - (i + 1)) * 1 by rw [Nat.mul_one]; exact hlen)
  have s2 := Lib.hid (show ∀ u ∈ news, u.oneCell' = true by rw [hnews]; exact ic_one _)
  have s3 := Lib.hid (show ∀ t, t < news.length → (w.drew.cell? ⟨g, off + i * 1 + t, none⟩).isSome = true ∧ w.drew.frozen? ⟨g, off + i * 1 + t, none⟩ = false from fun t ht => by
    rw [Nat.mul_one, Nat.add_assoc]
    exact hfree (i + t) (by omega))
  obtain ⟨W1, hW1⟩ : ∃ W1, W1 = w.drew.setCells g (off + i * 1) news := ⟨_, rfl⟩
  have hsome : ∀ j, j < c → (W1.cell? ⟨g, off + j, none⟩).isSome = true := fun j hj => by
    rw [hW1]
    exact isSome_setCells g news _ _ (fun k hk => by rw [Nat.mul_one, Nat.add_assoc]; exact (hfree _ (by omega)).1) _ (hfree j (by omega)).1
  have hfro : ∀ j, j < c → W1.frozen? ⟨g, off + j, none⟩ = false := fun j hj => by
    rw [hW1, World.frozen?_setCells]; exact (hfree j (by omega)).2
  have hcl : ∀ ty, (Builtin.clear_ #[39] ty #[.slice (some ⟨g, off + (n - 1), none⟩) (n - (n - 1)) (c - (n - 1))]).run Tryz.prog W1 = .ok (.tuple #[]) (W1.setCells g (off + (n - 1)) (List.replicate (n - (n - 1)) (.int .i64 0))) :=
    fun ty => Lib.run_clear_slice W1 _ _ ty _ Tryz.underlying39 (fun _ => rfl) rfl rfl g (off + (n - 1)) _ _ (by omega) (fun t ht => by rw [Nat.add_assoc]; exact hsome _ (by omega)) (fun t ht => by rw [Nat.add_assoc]; exact hfro _ (by omega))
  have hn1 : n - (n - 1) = 1 := by omega
  rw [hn1] at hcl
  have hin : i + (n - (i + 1)) = n - 1 := by omega
  have hfin : Sl (W1.setCells g (off + (n - 1)) (List.replicate 1 (.int .i64 0))) base 1 (.slice (some ⟨g, off, none⟩) (n - 1) c) (n - 1) (ic (l.eraseIdx i)) := by
    refine ⟨by rw [ic_length, List.length_eraseIdx_of_lt (by omega)]; omega, .inr ⟨g, off, c, rfl, hbg, by rw [size_setCells, hW1, size_setCells]; exact hg, by omega, hcm, fun j hj => ⟨?_, ?_⟩, fun j hj => ?_⟩⟩
    · exact isSome_setCells g _ _ _ (fun k hk => by
        obtain rfl : k = 0 := by simpa using hk
        exact hsome (n - 1) (by omega)) _ (hsome j (by omega))
    · rw [World.frozen?_setCells]; exact hfro j (by omega)
    · rw [World.cell?_setCells_out g _ _ _ ⟨g, off + j, none⟩ (fun _ _ => by show off + j < off + (n - 1) ∨ _; omega), hW1]
      rcases Nat.lt_or_ge j i with hji | hji
      · rw [World.cell?_setCells_out g _ _ _ ⟨g, off + j, none⟩ (fun _ _ => by show off + j < off + i * 1 ∨ _; omega)]
        refine (hcell j (by omega)).trans ?_
        unfold ic
        rw [List.getElem?_map, List.getElem?_map, List.getElem?_eraseIdx, if_pos hji]
      · have := World.cell?_setCells_in g news (off + i * 1) w.drew (fun k hk => by rw [Nat.mul_one, Nat.add_assoc]; exact (hfree _ (by omega)).1) (j - i) (by omega)
        rw [show off + i * 1 + (j - i) = off + j by omega] at this
        rw [this, ← List.getElem?_eq_getElem, hnews, ic_drop]
        unfold ic
        rw [List.getElem?_map, List.getElem?_map, List.getElem?_eraseIdx, if_neg (by omega), show i + 1 + (j - i) = j + 1 by omega]
  have htu : Turn (fun k => k = g) w (W1.setCells g (off + (n - 1)) (List.replicate 1 (.int .i64 0))) := by
    rw [hW1]
    exact ((Turn.refl _ w).drew.trans (turn_cells _ _ _ _)).trans (turn_cells _ _ _ _)
  have FIN := Lib.hid hfin
  have TU := Lib.hid htu
  have HW := Lib.hid hW1
  have HS := Lib.hid hsrc
  have hic : i ≤ c := by omega
  have hjc : i + 1 ≤ c := by omega
  have hw1 : IntKind.i64.wrap ((i : Int) + 1) = (i : Int) + 1 := by rw [IntKind.wrap_i64]; omega
  have htn : ((i : Int) + 1).toNat = i + 1 := by omega
  have hb1 : (0 : Int) ≤ (i : Int) + 1 := by omega
  have hb2 : (i : Int) + 1 ≤ (n : Int) := by omega
  have hb3 : ¬ ((i : Int) = (i : Int) + 1) := by omega
  have hb4 : ¬ (c = n - 1) := by omega
  have hb5 : n - 1 ≤ n := by omega
  clear hs hfin htu hW1 hsrc hfree hcell hsome hfro hnews hlen hget hl
  go_enter Tryz.func54, Tryz.ntmps54
  go_wp2_with fail
  go_region_law (refine step_append_room rfl _ _ 39 rfl 3 i0 1 Tryz.underlying39 hi0 hz1 g off i c (by simp [Act.eval, Act.put]) A (n - (i + 1)) (c - (i + 1)) news (by simp [Act.eval, Act.put]) s1.out HS.out s2.out (by omega) s3.out ?_; rw [← HW.out, hin])
  go_wp2
  go_ret
  exact ⟨rfl, FIN.out, TU.out⟩

/-- Without a number. -/
def outZ (l : List Int) (n : Int) : List Int := l.filter fun y => decide (y ≠ n)
theorem outZ_mem (l : List Int) (n y : Int) : y ∈ outZ l n ↔ y ∈ l ∧ y ≠ n := by unfold outZ; simp
theorem outZ_up {l : List Int} (n : Int) (h : Up l) : Up (outZ l n) := List.Pairwise.filter _ h
theorem outZ_len (l : List Int) (n : Int) : (outZ l n).length ≤ l.length := List.length_filter_le _ _
theorem outZ_not {l : List Int} {n : Int} (h : n ∉ l) : outZ l n = l := by
  unfold outZ
  rw [List.filter_eq_self]
  intro y hy
  simp only [decide_eq_true_eq]
  exact fun e => h (e ▸ hy)
theorem erase_pos : ∀ (l : List Int) (n : Int), Up l → n ∈ l → l.eraseIdx (pos l n) = outZ l n
  | a :: l, n, hu, hn => by
    have hu' : Up l := (List.pairwise_cons.1 hu).2
    have ha := (List.pairwise_cons.1 hu).1
    rcases List.mem_cons.1 hn with rfl | hm
    · have hp : pos (n :: l) n = 0 := by
        unfold pos
        rw [List.length_eq_zero_iff, List.filter_eq_nil_iff]
        intro y hy
        rcases List.mem_cons.1 hy with rfl | hy
        · simp
        · have := ha y hy; simp; omega
      rw [hp, List.eraseIdx_cons_zero]
      have h1 : n ∉ l := fun e => by have := ha n e; omega
      unfold outZ
      rw [List.filter_cons_of_neg (by simp)]
      exact (outZ_not h1).symm
    · have hlt := ha n hm
      have hp : pos (a :: l) n = pos l n + 1 := by simp [pos, hlt]
      rw [hp, List.eraseIdx_cons_succ, erase_pos l n hu' hm]
      unfold outZ
      rw [List.filter_cons_of_pos (by simp; omega)]

theorem delete_any (base i : Nat) (v : Value) (l : List Int) (w : World) (hs : Sl w base 1 v l.length (ic l)) (hi : i < l.length) :
    Calls Tryz.prog 54 #[v, .int .i64 i, .int .i64 (i + 1)] w (LW w base v (l.eraseIdx i)) := by
  have hs0 := hs
  rcases hs.2 with ⟨h0, h1⟩ | ⟨g, off, c, rfl, hbg, hg, hnc, hcm, hfree, hcell⟩
  · omega
  · refine (delete_one base g off l.length c i l w hs0 hi).mono ?_
    rintro e w' ⟨rfl, h1, h2⟩
    refine ⟨_, rfl, by rw [List.length_eraseIdx_of_lt hi]; exact h1, h2.mono (fun k e => by rw [e]; rfl), fun k hk => .inl hk⟩

set_option maxHeartbeats 1000000 in
set_option maxRecDepth 100000 in
theorem without_any (base : Nat) (v : Value) (l : List Int) (x : Int) (w : World) (hs : Sl w base 1 v l.length (ic l)) (hu : Up l) (hn : l.length ≤ 100000) :
    Calls Tryz.prog 31 #[v, .int .i64 x] w (LW w base v (outZ l x)) := by
  have C := Lib.hid (search_any v l x w (Nc.of_sl hs hn) hu)
  by_cases hx : x ∈ l
  · rw [show decide (x ∈ l) = true by simpa using hx] at C
    have hpl : pos l x < l.length := (List.getElem?_eq_some_iff.1 ((pos_mem l x hu).1 hx)).1
    have D := Lib.hid (delete_any base (pos l x) v l w hs hpl)
    rw [erase_pos l x hu hx] at D
    obtain ⟨P, hP⟩ : ∃ P, P = pos l x := ⟨_, rfl⟩
    rw [← hP] at C D hpl
    have hw1 : IntKind.i64.wrap ((P : Int) + 1) = (P : Int) + 1 := by rw [IntKind.wrap_i64]; omega
    clear hs hu hx hP
    go_enter Tryz.func31, Tryz.ntmps31
    go_wp2_with fail
    refine C.out.mono ?_
    rintro e w1 ⟨rfl, rfl⟩
    go_wp2_with fail
    refine D.out.mono ?_
    rintro e w2 ⟨v2, rfl, s2, b2, o2⟩
    go_wp2
    go_ret
    exact ⟨_, rfl, s2, b2, o2⟩
  · rw [show decide (x ∈ l) = false by simpa using hx] at C
    have FIN := Lib.hid (show LW w base v (outZ l x) (.returned v) w from ⟨v, rfl, by rw [outZ_not hx]; exact hs, Turn.refl _ _, fun k hk => .inl hk⟩)
    clear hs hu hx
    go_enter Tryz.func31, Tryz.ntmps31
    go_wp2_with fail
    refine C.out.mono ?_
    rintro e w1 ⟨rfl, rfl⟩
    go_wp2
    go_ret
    exact FIN.out
end Go.Proofs.YtefhnjepocbodaaGreatDoor

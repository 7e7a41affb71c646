/- Layer 12: numbers sorted, each once; slices.Sort and slices.Compact over one's own list; Any. -/
import Derived.Test.YtefhnjepocbodaaGreatDoorMT4
import Derived.Test.YtefhnjepocbodaaGreatDoorMKA
import Derived.Lib.SlicesCompact
import Derived.Sort.EveryDepth
namespace Go.Proofs.YtefhnjepocbodaaGreatDoor
open Go.RowKit Go.Lib Go.Shelf Go.Proofs

theorem get_arr (zs : List Int) (m : Nat) (h : m < zs.length) : zs.toArray[m]! = zs[m] := by
  rw [getElem!_pos _ m (by simpa using h)]; simp
theorem take_mem_succ (zs : List Int) (m : Nat) (h : m < zs.length) (y : Int) : y ∈ zs.take (m + 1) ↔ y ∈ zs.take m ∨ y = zs[m] := by
  rw [List.take_add_one, List.getElem?_eq_getElem h, List.mem_append]
  simp
/-- What Compact leaves of a sorted list. -/
theorem compact_go (zs : List Int) (hs : zs.Pairwise (· ≤ ·)) : ∀ m, m ≤ zs.length → (∀ y, y ∈ Lib.compactUpTo zs.toArray m ↔ y ∈ zs.take m) ∧ Up (Lib.compactUpTo zs.toArray m)
  | 0, _ => ⟨fun y => by simp [Lib.compactUpTo], by simp [Lib.compactUpTo]; exact up_nil⟩
  | m + 1, hm => by
    have hlt : m < zs.length := by omega
    obtain ⟨h1, h2⟩ := compact_go zs hs m (by omega)
    rw [Lib.compactUpTo_succ]
    have hg := get_arr zs m hlt
    by_cases hk : Lib.keeps zs.toArray m = true
    · rw [if_pos hk, hg]
      refine ⟨fun y => by rw [List.mem_append, h1 y, take_mem_succ zs m hlt y]; simp, ?_⟩
      refine List.pairwise_append.2 ⟨h2, List.pairwise_singleton _ _, fun y hy x hx => ?_⟩
      obtain rfl := List.mem_singleton.1 hx
      have hy := (h1 y).1 hy
      unfold Lib.keeps at hk
      have hk := of_decide_eq_true hk
      rcases hk with h0 | hne
      · subst h0; simp at hy
      · have hm0 : 0 < m := by
          rcases Nat.eq_zero_or_pos m with h0 | h0
          · subst h0; simp at hy
          · exact h0
        rw [hg, get_arr zs (m - 1) (by omega)] at hne
        obtain ⟨j, hj, rfl⟩ := List.getElem_of_mem hy
        rw [List.length_take] at hj
        rw [List.getElem_take]
        have e1 : zs[j] ≤ zs[m - 1] := by
          rcases Nat.lt_or_ge j (m - 1) with h | h
          · exact (List.pairwise_iff_getElem.1 hs) j (m - 1) (by omega) (by omega) h
          · have : j = m - 1 := by omega
            subst this; exact Int.le_refl _
        have e2 : zs[m - 1] ≤ zs[m] := (List.pairwise_iff_getElem.1 hs) (m - 1) m (by omega) hlt (by omega)
        omega
    · have hk' : ¬ (m = 0 ∨ zs.toArray[m]! ≠ zs.toArray[m - 1]!) := fun h => hk (decide_eq_true h)
      rw [if_neg hk, List.append_nil]
      refine ⟨fun y => ?_, h2⟩
      rw [h1 y, take_mem_succ zs m hlt y]
      have hm0 : 0 < m := by omega
      have he : zs[m] = zs[m - 1] := by
        have := fun h => hk' (.inr h)
        rw [hg, get_arr zs (m - 1) (by omega)] at this
        exact Classical.byContradiction this
      constructor
      · exact .inl
      · rintro (h | rfl)
        · exact h
        · rw [he]
          exact List.mem_iff_getElem.2 ⟨m - 1, by rw [List.length_take]; omega, by rw [List.getElem_take]⟩
theorem compact_is (ls : List (List Int)) (l : List Int) (hp : l.Perm ls.flatten) (hs : l.Pairwise (· ≤ ·)) : Lib.compact l = anyZ ls := by
  obtain ⟨h1, h2⟩ := compact_go l hs l.length (Nat.le_refl _)
  refine up_unique _ _ h2 (anyZ_up ls) fun y => ?_
  unfold Lib.compact
  rw [h1 y, List.take_length, anyZ_mem, hp.mem_iff]
  simp [List.mem_flatten]

theorem perm_of_inI {d d' : Array Int} (h : Sort.PermIn 0 d.size d d') : d'.toList.Perm d.toList := by
  obtain ⟨h1, _, h3⟩ := h
  have e1 : d'.extract 0 d.size = d' := by rw [← h1]; exact Array.extract_size
  have e2 : d.extract 0 d.size = d := Array.extract_size
  rw [e1, e2] at h3
  exact h3
theorem holds_of_sl {w : World} {base g off cap : Nat} {l : List Int} (h : Sl w base 1 (.slice (some ⟨g, off, none⟩) l.length cap) l.length (ic l)) : Sort.Holds (Value.int .i64) w g off l.toArray := by
  intro j hj
  have hj' : j < l.length := by simpa using hj
  rcases h.2 with ⟨h0, _⟩ | ⟨g', off', cap', he, _, _, hnc, _, hfree, hcell⟩
  · cases h0
  · cases he
    refine ⟨?_, (hfree j (by omega)).2⟩
    rw [hcell j (by omega), get_arr l j hj']
    exact ic_at l j _ (List.getElem?_eq_getElem hj')

/-- A row of one's own with other numbers in it. -/
theorem sl_put {w w' : World} {base g off cap n : Nat} {l l' : List Int} (h : Sl w base 1 (.slice (some ⟨g, off, none⟩) l.length cap) l.length (ic l)) (hl : l'.length = l.length) (hn : n ≤ l.length)
    (hs : w.heap.size ≤ w'.heap.size) (hc : ∀ j x, l'[j]? = some x → w'.cell? ⟨g, off + j, none⟩ = some (.int .i64 x)) (ho : ∀ j, l.length ≤ j → w'.cell? ⟨g, off + j, none⟩ = w.cell? ⟨g, off + j, none⟩) (hf : ∀ a, a.block < w.heap.size → w'.frozen? a = w.frozen? a) :
    Sl w' base 1 (.slice (some ⟨g, off, none⟩) n cap) n (ic (l'.take n)) := by
  rcases h.2 with ⟨h0, _⟩ | ⟨g', off', cap', he, hb, hg, hnc, hcm, hfree, hcell⟩
  · cases h0
  · cases he
    refine ⟨by rw [ic_length, List.length_take]; omega, .inr ⟨g, off, cap, rfl, hb, by omega, by omega, hcm, fun j hj => ⟨?_, ?_⟩, fun j hj => ?_⟩⟩
    · by_cases hjl : j < l'.length
      · rw [hc j l'[j] (List.getElem?_eq_getElem hjl)]; rfl
      · rw [ho j (by omega)]; exact (hfree j hj).1
    · rw [hf _ hg]; exact (hfree j hj).2
    · have hjl : j < l'.length := by omega
      rw [hc j l'[j] (List.getElem?_eq_getElem hjl), ic_at (l'.take n) j l'[j] (by rw [List.getElem?_take, if_pos (by omega)]; exact List.getElem?_eq_getElem hjl)]

theorem below_world {B : Nat} {w w' : World} {g n off : Nat} {d : Array Int} {os : Array Obj} (hg : B ≤ g) (hw : w' = Sort.grow (Sort.putRow (Value.int .i64) (Sort.ahead w n) g off d) os) (hB : B ≤ w.heap.size) : Below B w w' := by
  subst hw
  refine ⟨rfl, rfl, rfl, by simp, fun k hk => ?_⟩
  rw [Sort.heap_grow_old _ _ (by simp; omega)]
  have hgk : g ≠ k := by omega
  simp [Sort.putRow, Sort.mapBlock, Sort.ahead, Array.getElem?_modify, hgk]

/-- slices.Sort's inner loop, at any length. -/
theorem pdqz_any (g off cap lim : Nat) (l : List Int) (w : World) (hH : Sort.Holds (Value.int .i64) w g off l.toArray) (hg : g < w.heap.size) (hl : l.length ≤ 1000000) (hlim : lim ≤ 64) :
    Calls Tryz.prog 126 #[.slice (some ⟨g, off, none⟩) l.length cap, .int .i64 0, .int .i64 l.length, .int .i64 lim] w fun e w' => e = .returned (.tuple #[]) ∧ ∃ l' : List Int, l'.Perm l ∧ l'.Pairwise (· ≤ ·) ∧ ∃ n os, w' = Sort.grow (Sort.putRow (Value.int .i64) (Sort.ahead w n) g off l'.toArray) os := by
  have hp := Sort.pdq_sorts Sort.ltInt Sort.swo_ltInt l.toArray 0 l.length lim true true (Nat.zero_le _) (by simp) (Or.inl rfl)
  refine (calls_of_every_depth fun D => by
    have := Any.pdqWalkInInt { pdqInts with } D _ g off cap 0 l.length lim l.toArray w (Nat.le_refl _) hH hg (Nat.zero_le _) (by simp) (by simp; omega) (by omega) (Or.inl rfl)
    rw [List.size_toArray] at this
    exact this).mono ?_
  rintro e w' ⟨rfl, n, os, rfl⟩
  obtain ⟨d', hd'⟩ : ∃ d', d' = Sort.pdq Sort.ltInt l.toArray 0 l.length lim true true := ⟨_, rfl⟩
  rw [← hd'] at hp ⊢
  obtain ⟨hp, hso⟩ := hp
  have hds : d'.size = l.length := by have := hp.1; simpa using this
  refine ⟨rfl, d'.toList, perm_of_inI hp, ?_, n, os, by rw [Array.toArray_toList]⟩
  rw [List.pairwise_iff_getElem]
  intro i j hi hj hij
  have h := hso i j (Nat.zero_le _) hij (by simp at hj; omega)
  unfold Sort.ltInt at h
  rw [decide_eq_false_iff_not] at h
  have e1 : d'[i]! = d'.toList[i] := by simp at hi; simp [hi]
  have e2 : d'[j]! = d'.toList[j] := by simp at hj; simp [hj]
  rw [e1, e2] at h
  omega

theorem calls_pdq_none (p : Option Addr) (cap : Nat) (w : World) : Calls Tryz.prog 126 #[.slice p 0 cap, .int .i64 0, .int .i64 0, .int .i64 0] w fun e w' => e = .returned (.tuple #[]) ∧ w' = w :=
  calls_of_every_depth fun D => AnyS.pdqsort_int_none_in { pdqInts with } D p cap w

set_option maxHeartbeats 1000000 in
set_option maxRecDepth 100000 in
theorem sortz_any (v : Value) (l : List Int) (base : Nat) (w : World) (h : Sl w base 1 v l.length (ic l)) (hl : l.length ≤ 1000000) (hB : base ≤ w.heap.size) :
    Calls Tryz.prog 96 #[v] w fun e w' => e = .returned (.tuple #[]) ∧ ∃ l' : List Int, l'.Perm l ∧ l'.Pairwise (· ≤ ·) ∧ Sl w' base 1 v l.length (ic l') ∧ Below base w w' := by
  obtain ⟨va, vc, rfl⟩ := h.slice
  have HH := Lib.hid h
  have wr : IntKind.u64.wrap (l.length : Int) = l.length := by simp [IntKind.wrap, IntKind.bits, IntKind.signed]; omega
  obtain ⟨n, hn⟩ : ∃ n, n = l.length := ⟨_, rfl⟩
  have HL := Lib.hid (fun W => len_any n W (by omega))
  have hbl : Lib.bitLen n ≤ 64 := Lib.bitLen_le n 64 (by omega) (by omega)
  obtain ⟨lim, hlim⟩ : ∃ k, k = Lib.bitLen n := ⟨_, rfl⟩
  rw [← hlim] at HL hbl
  rcases h.2 with ⟨he, h0⟩ | ⟨g, off, cap, he, hb, hg, hnc, hcm, hfree, hcell⟩
  · have hnil : l = [] := List.eq_nil_of_length_eq_zero h0
    have HP := Lib.hid (fun W => calls_pdq_none va vc W)
    have hn0 : n = 0 := by rw [hn, h0]
    have hlim0 : lim = 0 := by rw [hlim, hn0]; rfl
    rw [← hn] at wr HH ⊢
    have HN := Lib.hid hnil
    clear h h0 he hlim hn hnil hbl
    subst hn0 hlim0
    go_enter Tryz.func96, Tryz.ntmps96
    go_wp2_with fail
    refine (HL.out _).mono ?_
    rintro e w1 ⟨rfl, rfl⟩
    go_wp2_with fail
    refine (HP.out _).mono ?_
    rintro e w1 ⟨rfl, rfl⟩
    go_wp2
    go_end0
    exact ⟨rfl, [], by rw [HN.out], List.Pairwise.nil, by have := HH.out; rw [HN.out] at this; exact this, Below.refl _ _⟩
  · cases he
    have HP := Lib.hid (pdqz_any g off vc lim l w (holds_of_sl h) hg hl hbl)
    rw [← hn] at wr HH HP ⊢
    have HN := Lib.hid hn
    have h1 := Lib.hid hb; have h2 := Lib.hid hg
    clear h hn hb hg hnc hcm hfree hcell hlim
    go_enter Tryz.func96, Tryz.ntmps96
    go_wp2_with fail
    refine (HL.out _).mono ?_
    rintro e w1 ⟨rfl, rfl⟩
    go_wp2_with fail
    refine HP.out.mono ?_
    rintro e w1 ⟨rfl, hw⟩
    go_wp2
    go_end0
    obtain ⟨l', hp, hso, k, os, hw⟩ := hw
    have h := HH.out
    have hg := h2.out
    have hn := HN.out
    rw [hn] at h
    have hll : l'.length = l.length := hp.length_eq
    have hg' : g < (Sort.putRow (Value.int .i64) (Sort.ahead w k) g off l'.toArray).heap.size := by simpa using hg
    refine ⟨rfl, l', hp, hso, ?_, below_world h1.out hw hB⟩
    have h1 := sl_put (n := l.length) (w' := w1) h (l' := l') hll (Nat.le_refl _) (by rw [hw]; simp) (fun j x hj => ?_) (fun j hj => ?_) (fun a ha => ?_)
    · rw [List.take_of_length_le (by omega)] at h1
      rw [hn]
      exact h1
    · have hjl : j < l'.length := (List.getElem?_eq_some_iff.1 hj).1
      rw [hw, Sort.cell?_grow _ _ _ hg']
      have := Sort.cell?_putRow (Value.int .i64) (Sort.ahead w k) g off l.toArray l'.toArray (holds_of_sl h) (by simp [hll]) j (by simpa using hjl)
      rw [this, get_arr _ j hjl]
      rw [List.getElem?_eq_getElem hjl] at hj
      rw [Option.some.inj hj]
    · rw [hw, Sort.cell?_grow _ _ _ hg', Sort.cell?_putRow_other _ _ _ _ _ _ (.inr (.inr (by simp [hll]; omega)))]
      rfl
    · rw [hw, Sort.frozen?_grow _ _ _ (by simpa using ha), Sort.frozen?_putRow]
      rfl
end Go.Proofs.YtefhnjepocbodaaGreatDoor

/- Layer 5's buckets: New, Peek, Put. -/
import Derived.Test.YtfjihookoilnnaaG0
import Derived.Deep.RegionHeld3
namespace Go.Proofs.Ytfjihookoilnnaa
open Go.Conc Go.RowKit

theorem new_bucket (w w1 : World) (hh : Holds (w.heap.size + 1) w.heap.size [] w1) (b1 : Below w.heap.size w w1) (z1 : w1.heap.size = w.heap.size + 2) :
    BucketAt (w.heap.size + 3) (w.heap.size + 1) w.heap.size (w.heap.size + 2) [] [] 0 ((w1.alloc (.map #[] 0)).alloc (.cells #[.pointer (some ⟨w.heap.size + 1, 0, none⟩), .map (some (w.heap.size + 2))] 35)) ∧
    Below w.heap.size w ((w1.alloc (.map #[] 0)).alloc (.cells #[.pointer (some ⟨w.heap.size + 1, 0, none⟩), .map (some (w.heap.size + 2))] 35)) := by
  obtain ⟨W2, hW2⟩ : ∃ W2, W2 = w1.alloc (.map #[] 0) := ⟨_, rfl⟩
  have z2 : W2.heap.size = w.heap.size + 3 := by rw [hW2]; simp; omega
  have hm : W2.heap[w.heap.size + 2]? = some (.map #[] 0) := by rw [hW2]; have := heap_alloc_new w1 (.map #[] 0); rw [z1] at this; exact this
  have b2 : Below w1.heap.size w1 W2 := by rw [hW2]; exact (Below.refl _ _).alloc (Nat.le_refl _) _
  rw [← hW2]
  obtain ⟨W3, hW3⟩ : ∃ W3, W3 = W2.alloc (.cells #[.pointer (some ⟨w.heap.size + 1, 0, none⟩), .map (some (w.heap.size + 2))] 35) := ⟨_, rfl⟩
  have z3 : W3.heap.size = w.heap.size + 4 := by rw [hW3]; simp; omega
  have hd : W3.heap[w.heap.size + 3]? = some (.cells #[.pointer (some ⟨w.heap.size + 1, 0, none⟩), .map (some (w.heap.size + 2))] 35) := by
    rw [hW3]; have := heap_alloc_new W2 (.cells #[.pointer (some ⟨w.heap.size + 1, 0, none⟩), .map (some (w.heap.size + 2))] 35); rw [z2] at this; exact this
  have b3 : Below W2.heap.size W2 W3 := by rw [hW3]; exact (Below.refl _ _).alloc (Nat.le_refl _) _
  rw [← hW3]
  have hcell : ∀ o v, (#[Value.pointer (some ⟨w.heap.size + 1, 0, none⟩), Value.map (some (w.heap.size + 2))] : Array Value)[o]? = some v → W3.cell? ⟨w.heap.size + 3, o, none⟩ = some v := fun o v hv => by
    rw [cell_of_row _ _ o _ _ _ hd]; exact hv
  have t13 : Turn (fun _ => False) w1 W3 := (Turn.of_below b2).trans (Turn.of_below b3)
  refine ⟨⟨by omega, by omega, by omega, by omega, by omega, by omega, by omega, hcell _ _ rfl, hcell _ _ rfl, hh.turn t13 (fun h => h) (fun h => h), ?_, by simp, by simp, by simp⟩, ?_⟩
  · show W3.heap[w.heap.size + 2]? = _
    rw [b3.block _ (by omega)]; exact hm
  · exact (b1.trans (b2.mono (by omega))).trans (b3.mono (by omega))

theorem bnew_any (w : World) : Calls Try.prog 12 #[] w fun e w' => e = .returned (.pointer (some ⟨w.heap.size + 3, 0, none⟩)) ∧
      BucketAt (w.heap.size + 3) (w.heap.size + 1) w.heap.size (w.heap.size + 2) [] [] 0 w' ∧ Below w.heap.size w w' := by
  have hmm := @run_makeMap Try.prog
  go_enter Try.func12, Try.ntmps12
  go_wp2_with fail
  refine (newfuse_any _).mono ?_
  rintro e w1 ⟨rfl, hh, b1, z1⟩
  have N := Lib.hid (new_bucket w w1 hh b1 z1)
  go_wp2
  go_ret
  exact ⟨rfl, N.out⟩

/-- An object's bytes, or none; were they there? -/
def peekO (k : ByteArray) (os : List Ob) : ByteArray := ((lookO k os).map (·.data)).getD ByteArray.empty
theorem look_valO (k : ByteArray) (os : List Ob) : ∃ t, (((lookO k os).map Ob.en).map (·.val)).getD (oval ByteArray.empty 0) = oval (peekO k os) t := by
  unfold peekO
  cases lookO k os with
  | none => exact ⟨0, rfl⟩
  | some x => exact ⟨x.tm, rfl⟩

set_option maxRecDepth 100000 in
theorem peek_any (k f c m : Nat) (os : List Ob) (A : List Ft) (clock : Nat) (name : ByteArray) (w : World) (h : BucketAt k f c m os A clock w) :
    Calls Try.prog 17 #[.pointer (some ⟨k, 0, none⟩), .string name] w fun e w' => e = .returned (.tuple #[.string (peekO name os), .bool (lookO name os).isSome]) ∧ Below w.heap.size w w' := by
  have c1 := h.c1
  have hl0 := run_look (P := Try.prog) (w := w) Try.underlying33 Try.underlying9 (oval ByteArray.empty 0) zero_obj h.map name true
  obtain ⟨t, ht⟩ := look_valO name os
  obtain ⟨s, hs⟩ : ∃ s, s = peekO name os := ⟨_, rfl⟩
  obtain ⟨b, hb⟩ : ∃ b, b = (lookO name os).isSome := ⟨_, rfl⟩
  rw [look_enO, ht, ← hs] at hl0
  rw [← hs, ← hb]
  simp only [if_true, Option.isSome_map, ← hb] at hl0
  unfold oval at hl0
  clear ht hs hb
  go_enter Try.func17, Try.ntmps17
  go_wp2
  go_ret2
  exact ⟨rfl, (Below.refl _ w).alloc (Nat.le_refl _) _⟩

theorem bmaybe_any (s : ByteArray) (w : World) :
    Calls Try.prog 51 #[.string s] w fun e w' => e = .returned (.bool (decide (0 < s.size ∧ s.size ≤ 40))) ∧ w = w' := by
  go_enter Try.func51, Try.ntmps51
  have hl : s.toList.length = s.size := by rw [ByteArray.toList_eq, Array.length_toList]; rfl
  by_cases h : s.toList = []
  · have hz : s.size = 0 := by rw [← hl, h]; rfl
    have hd : decide (0 < s.size ∧ s.size ≤ 40) = false := by simp; omega
    rw [hd]
    clear hl hz hd
    go_wp2
    go_ret
    exact ⟨rfl, rfl⟩
  · have hz : 0 < s.size := by
      rcases Nat.eq_zero_or_pos s.size with h0 | h0
      · exact absurd (List.eq_nil_of_length_eq_zero (hl.trans h0)) h
      · exact h0
    have hd : decide (0 < s.size ∧ s.size ≤ 40) = (!s.toList.isEmpty && decide ((s.size : Int) ≤ 40)) := by
      have he : s.toList.isEmpty = false := by simpa using h
      rw [he]
      by_cases h40 : s.size ≤ 40
      · have h40' : (s.size : Int) ≤ 40 := by omega
        simp [hz, h40, h40']
      · have h40' : ¬ (s.size : Int) ≤ 40 := by omega
        simp [h40, h40']
    have HD := Lib.hid hd
    clear hl hd hz
    go_wp2
    go_ret
    exact ⟨by rw [HD.out]; rfl, rfl⟩

set_option maxHeartbeats 1000000 in
set_option maxRecDepth 100000 in
/-- Put's closure. -/
theorem put1_any (k f c m : Nat) (os : List Ob) (A : List Ft) (clock : Nat) (name data : ByteArray) (tm : Int) (bk bn bd bt : Nat) (w : World) (h : BucketAt k f c m os A clock w)
    (p0 : w.cell? ⟨bk, 0, none⟩ = some (.pointer (some ⟨k, 0, none⟩))) (p1 : w.cell? ⟨bn, 0, none⟩ = some (.string name)) (p2 : w.cell? ⟨bd, 0, none⟩ = some (.string data)) (p3 : w.cell? ⟨bt, 0, none⟩ = some (.int .i64 tm)) :
    Calls Try.prog 52 #[.pointer (some ⟨bd, 0, none⟩), .pointer (some ⟨bt, 0, none⟩), .pointer (some ⟨bk, 0, none⟩), .pointer (some ⟨bn, 0, none⟩)] w fun e w' => ∃ er, e = .returned (.int .i64 er) ∧ er = 0 ∧ (∃ ck, BucketAt k f c m (setO name data tm clock os) A ck w') ∧ Turn (fun i => i = m) w w' := by
  have c1 := h.c1
  have hst := fun W (hm : MapIs m (os.map Ob.en) clock W) => run_store (P := Try.prog) (w := W) Try.underlying33 Try.underlying9 hm name (oval data tm)
  have hst2 := hst w.drew h.map
  obtain ⟨ck, hck⟩ : ∃ ck, ck = if (lookE name (os.map Ob.en)).isSome then clock else clock + 1 := ⟨_, rfl⟩
  rw [← hck] at hst2
  obtain ⟨W1, hW1⟩ : ∃ W1, W1 = World.putMap w.drew m (setE name (oval data tm) clock (os.map Ob.en)) ck := ⟨_, rfl⟩
  rw [← hW1] at hst2
  have HK := Lib.hid hck; have HW := Lib.hid hW1
  unfold oval at hst2
  clear hst hck hW1
  go_enter Try.func52, Try.ntmps52
  go_wp2_with fail
  go_region
  go_wp2
  go_ret
  have ht : Turn (fun i => i = m) w W1 := by rw [HW.out]; exact (Turn.refl _ w).drew.trans (turn_put (S := fun i => i = m) rfl _ _)
  refine ⟨0, rfl, rfl, ⟨ck, h.mapped ht ?_ (set_nodupO _ _ _ _ _ h.names) ?_⟩, ht⟩
  · have := mapIs_put (w := w.drew) (m := m) h.mlt (setE name (oval data tm) clock (os.map Ob.en)) ck
    rw [← HW.out, set_enO] at this
    exact this
  · have := h.stamps.set name data tm
    rw [HK.out, look_enO]
    simpa using this
end Go.Proofs.Ytfjihookoilnnaa

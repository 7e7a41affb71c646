/- Layer 4: a file dropped. -/
import Derived.Test.YtfjihookoilnnaaD7
namespace Go.Proofs.Ytfjihookoilnnaa
open Go.Conc Go.RowKit

theorem del_sub (k : ByteArray) : ∀ fs : List Fl, (delF k fs).Sublist fs
  | [] => List.Sublist.refl _
  | e :: es => by
    unfold delF
    by_cases h : k = e.name
    · rw [if_pos h]; exact List.sublist_cons_self _ _
    · rw [if_neg h]; exact (del_sub k es).cons_cons _
theorem Files.del {base : Nat} {fs : List Fl} {w : World} (h : Files base fs w) (k : ByteArray) : Files base (delF k fs) w :=
  ⟨fun x hx => h.sl x ((del_sub k fs).subset hx), fun x hx => h.sure x ((del_sub k fs).subset hx), h.names.sublist ((del_sub k fs).map _), h.apart.sublist (del_sub k fs)⟩
theorem Stamps.del {fs : List Fl} {clock : Nat} (h : Stamps fs clock) (k : ByteArray) : Stamps (delF k fs) clock :=
  ⟨fun x hx => h.1 x ((del_sub k fs).subset hx), h.2.sublist ((del_sub k fs).map _)⟩

set_option maxHeartbeats 1000000 in
set_option maxRecDepth 100000 in
theorem drop_any (base d f c m : Nat) (room : Int) (fs : List Fl) (A : List Ft) (clock : Nat) (name : ByteArray) (w : World) (h : DiskAt base d f c m room fs A clock w) :
    Calls Try.prog 70 #[.pointer (some ⟨d, 0, none⟩), .string name] w fun e w' => e = .returned (.tuple #[]) ∧ PutIt base d f c m room (delF name fs) A w w' := by
  obtain ⟨c2, c3⟩ := And.intro h.c2 h.c3
  have f2 := h.f2
  have hs := h.small
  have hdw : d < w.heap.size := Nat.lt_of_lt_of_le h.dlt h.hb
  have hmw : m < w.heap.size := Nat.lt_of_lt_of_le h.mlt h.hb
  obtain ⟨g, hg⟩ : ∃ g, g = lookF name fs := ⟨_, rfl⟩
  have hl0 := run_look (P := Try.prog) (w := w) Try.underlying72 Try.underlying9 (fval (.slice none 0 0) 0) zero_file h.map name false
  have hl1 := run_look (P := Try.prog) (w := w.drew) Try.underlying72 Try.underlying9 (fval (.slice none 0 0) 0) zero_file h.map name false
  rw [look_en, ← hg] at hl0 hl1
  simp only [Bool.false_eq_true, if_false] at hl0 hl1
  obtain ⟨a0, n0, cap0, sure0, hv0⟩ : ∃ a0 n0 cap0 sure0, (((g.map Fl.en).map (·.val)).getD (fval (.slice none 0 0) 0)) = fval (.slice a0 n0 cap0) sure0 ∧ n0 = lenF name fs := by
    unfold lenF
    rw [← hg]
    cases hgc : g with
    | none => exact ⟨none, 0, 0, 0, rfl, rfl⟩
    | some x =>
      have hx : x ∈ fs := (look_mem name fs x (hg.symm.trans hgc)).1
      obtain ⟨a0, cap0, hv⟩ := (h.files.sl x hx).slice
      exact ⟨a0, x.data.length, cap0, x.sure, by simp [Fl.en, hv], rfl⟩
  rw [hv0.1] at hl0 hl1
  have hu := used_del name fs
  have hn0 : n0 ≤ usedF fs := by rw [hv0.2]; omega
  obtain ⟨U, hU⟩ : ∃ U, U = usedF fs := ⟨_, rfl⟩
  rw [← hU] at c2 hs hn0
  have HU := Lib.hid hU
  have HN0 := Lib.hid hv0.2
  have HUD := Lib.hid hu
  have hdm := h.dm
  clear hU hv0 hg hu
  unfold fval at hl0 hl1
  have hfd := field_data
  go_enter Try.func70, Try.ntmps70
  go_wp2_with fail
  go_region
  obtain ⟨W1, hW1⟩ : ∃ W1, W1 = (w.setCell ⟨d, 2, none⟩ (.int .i64 ((U : Int) - (n0 : Int)))) := ⟨_, rfl⟩
  rw [← hW1]
  have hm1 : MapIs m (fs.map Fl.en) clock W1 := by unfold MapIs; rw [hW1, Below.heap_setCell _ _ _ _ (Ne.symm hdm)]; exact h.map
  have k3' : W1.cell? ⟨d, 3, none⟩ = some (.map (some m)) := by rw [hW1, cell_setCell_other _ _ _ _ _ (.inr (by simp))]; exact c3
  have hdl := fun ty => run_drop (P := Try.prog) (w := W1.drew) Try.underlying72 Try.underlying9 hm1 name ty
  obtain ⟨W2, hW2⟩ : ∃ W2, W2 = World.putMap W1.drew m (delE name (fs.map Fl.en)) clock := ⟨_, rfl⟩
  rw [← hW2] at hdl
  have HW1 := Lib.hid hW1
  have HW2 := Lib.hid hW2
  clear hl0 hl1 hW1 hW2 hm1 c2 c3
  go_wp2
  go_returns
  have hdB := h.dlt
  have hmB := h.mlt
  have hbw := h.hb
  have t1 : Turn (fun k => k = d ∨ k = m) w W1 := by rw [HW1.out]; exact (Turn.refl _ w).setCell ⟨d, 2, none⟩ _ (.inl rfl)
  have t2 : Turn (fun k => k = d ∨ k = m) w W2 := by rw [HW2.out]; exact t1.drew.trans (turn_put (S := fun k => k = d ∨ k = m) (.inr rfl) _ _)
  have z1 : w.heap.size ≤ W1.heap.size := t1.size
  have hd2 : W2.heap[d]? = W1.heap[d]? := by rw [HW2.out]; simp only [World.putMap]; rw [Array.getElem?_setIfInBounds_ne (Ne.symm hdm)]; rfl
  have hd1 : ∀ o, o ≠ 2 → W1.cell? ⟨d, o, none⟩ = w.cell? ⟨d, o, none⟩ := fun o ho => by rw [HW1.out, cell_setCell_other _ _ _ _ _ (.inr ho)]
  refine ⟨rfl, ⟨clock, ⟨Nat.le_trans hbw t2.size, h.dlt, h.flt, h.clt, h.mlt, h.df, h.dc, h.dm, h.fc, h.fm, h.cm, ?_, ?_, ?_, ?_, ?_, ?_, ?_, ?_, h.room0, h.room1, ?_, ?_⟩⟩, t2⟩
  · rw [World.cell?_of_block (a := ⟨d, 0, none⟩) hd2, hd1 _ (by decide)]; exact h.c0
  · rw [World.cell?_of_block (a := ⟨d, 1, none⟩) hd2, hd1 _ (by decide)]; exact h.c1
  · rw [World.cell?_of_block (a := ⟨d, 2, none⟩) hd2, HW1.out, cell_setCell_same _ _ _ _ (by rw [h.c2]; rfl)]
    congr 2
    have := HU.out
    have := HN0.out
    have := HUD.out
    omega
  · rw [World.cell?_of_block (a := ⟨d, 3, none⟩) hd2, hd1 _ (by decide)]; exact h.c3
  · rw [World.frozen?_of_block (a := ⟨d, 2, none⟩) hd2, HW1.out, frozen_setCell]; exact h.f2
  · exact h.fuse.turn t2 (by have := h.df; have := h.fm; omega) (by have := h.dc; have := h.cm; omega)
  · have := mapIs_put (w := W1.drew) (m := m) (show m < W1.heap.size by omega) (delE name (fs.map Fl.en)) clock
    rw [← HW2.out, del_en name fs] at this
    exact this
  · exact (h.files.del name).turn t2 (fun k hk => by rcases hk with rfl | rfl <;> omega)
  · have := HUD.out
    have := HU.out
    omega
  · exact h.stamps.del name
end Go.Proofs.Ytfjihookoilnnaa

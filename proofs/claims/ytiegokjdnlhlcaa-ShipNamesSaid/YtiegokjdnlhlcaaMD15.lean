/- Layer 4: a file dropped. Layer 4: Remove. -/
import Derived.Test.YtiegokjdnlhlcaaMD7
import Derived.Test.YtiegokjdnlhlcaaMD8
namespace Go.Proofs.Ytiegokjdnlhlcaa
open Go.Conc Go.RowKit

theorem del_sub (k : ByteArray) : ∀ fs : List Fl, (delF k fs).Sublist fs
  | [] => List.Sublist.refl _
  | e :: es => by
    unfold delF
    by_cases h : k = e.name
    · rw [if_pos h]; exact List.sublist_cons_self _ _
    · rw [if_neg h]; exact (del_sub k es).cons_cons _
theorem Files.del {base : Nat} {fs : List Fl} {w : World} (h : Files base fs w) (k : ByteArray) : Files base (delF k fs) w :=
  ⟨fun x hx => h.sl x ((del_sub k fs).subset hx), fun x hx => h.sure x ((del_sub k fs).subset hx), h.names.sublist ((del_sub k fs).map _), h.apart.sublist (del_sub k fs)⟩
theorem Stamps.del {fs : List Fl} {clock : Nat} (h : Stamps fs clock) (k : ByteArray) : Stamps (delF k fs) clock :=
  ⟨fun x hx => h.1 x ((del_sub k fs).subset hx), h.2.sublist ((del_sub k fs).map _)⟩

set_option maxHeartbeats 1000000 in
set_option maxRecDepth 100000 in
theorem drop_any (base d f c m : Nat) (room : Int) (fs : List Fl) (A : List Ft) (clock : Nat) (name : ByteArray) (w : World) (h : DiskAt base d f c m room fs A clock w) :
    Calls Try.prog 51 #[.pointer (some ⟨d, 0, none⟩), .string name] w fun e w' => e = .returned (.tuple #[]) ∧ PutIt base d f c m room (delF name fs) A w w' := by
  obtain ⟨c2, c3⟩ := And.intro h.c2 h.c3
  have f2 := h.f2
  have hs := h.small
  have hdw : d < w.heap.size := Nat.lt_of_lt_of_le h.dlt h.hb
  have hmw : m < w.heap.size := Nat.lt_of_lt_of_le h.mlt h.hb
  obtain ⟨g, hg⟩ : ∃ g, g = lookF name fs := ⟨_, rfl⟩
  have hl0 := run_look (P := Try.prog) (w := w) Try.underlying30 Try.underlying9 (fval (.slice none 0 0) 0) zero_file h.map name false
  have hl1 := run_look (P := Try.prog) (w := w.drew) Try.underlying30 Try.underlying9 (fval (.slice none 0 0) 0) zero_file h.map name false
  rw [look_en, ← hg] at hl0 hl1
  simp only [Bool.false_eq_true, if_false] at hl0 hl1
  obtain ⟨a0, n0, cap0, sure0, hv0⟩ : ∃ a0 n0 cap0 sure0, (((g.map Fl.en).map (·.val)).getD (fval (.slice none 0 0) 0)) = fval (.slice a0 n0 cap0) sure0 ∧ n0 = lenF name fs := by
    unfold lenF
    rw [← hg]
    cases hgc : g with
    | none => exact ⟨none, 0, 0, 0, rfl, rfl⟩
    | some x =>
      have hx : x ∈ fs := (look_mem name fs x (hg.symm.trans hgc)).1
      obtain ⟨a0, cap0, hv⟩ := (h.files.sl x hx).slice
      exact ⟨a0, x.data.length, cap0, x.sure, by simp [Fl.en, hv], rfl⟩
  rw [hv0.1] at hl0 hl1
  have hu := used_del name fs
  have hn0 : n0 ≤ usedF fs := by rw [hv0.2]; omega
  obtain ⟨U, hU⟩ : ∃ U, U = usedF fs := ⟨_, rfl⟩
  rw [← hU] at c2 hs hn0
  have HU := Lib.hid hU
  have HN0 := Lib.hid hv0.2
  have HUD := Lib.hid hu
  have hdm := h.dm
  clear hU hv0 hg hu
  unfold fval at hl0 hl1
  have hfd := field_data
  go_enter Try.func51, Try.ntmps51
  go_wp2_with fail
  go_region
  obtain ⟨W1, hW1⟩ : ∃ W1, W1 = (w.setCell ⟨d, 2, none⟩ (.int .i64 ((U : Int) - (n0 : Int)))) := ⟨_, rfl⟩
  rw [← hW1]
  have hm1 : MapIs m (fs.map Fl.en) clock W1 := by unfold MapIs; rw [hW1, Below.heap_setCell _ _ _ _ (Ne.symm hdm)]; exact h.map
  have k3' : W1.cell? ⟨d, 3, none⟩ = some (.map (some m)) := by rw [hW1, cell_setCell_other _ _ _ _ _ (.inr (by simp))]; exact c3
  have hdl := fun ty => run_drop (P := Try.prog) (w := W1.drew) Try.underlying30 Try.underlying9 hm1 name ty
  obtain ⟨W2, hW2⟩ : ∃ W2, W2 = World.putMap W1.drew m (delE name (fs.map Fl.en)) clock := ⟨_, rfl⟩
  rw [← hW2] at hdl
  have HW1 := Lib.hid hW1
  have HW2 := Lib.hid hW2
  clear hl0 hl1 hW1 hW2 hm1 c2 c3
  go_wp2
  go_returns
  have hdB := h.dlt
  have hmB := h.mlt
  have hbw := h.hb
  have t1 : Turn (fun k => k = d ∨ k = m) w W1 := by rw [HW1.out]; exact (Turn.refl _ w).setCell ⟨d, 2, none⟩ _ (.inl rfl)
  have t2 : Turn (fun k => k = d ∨ k = m) w W2 := by rw [HW2.out]; exact t1.drew.trans (turn_put (S := fun k => k = d ∨ k = m) (.inr rfl) _ _)
  have z1 : w.heap.size ≤ W1.heap.size := t1.size
  have hd2 : W2.heap[d]? = W1.heap[d]? := by rw [HW2.out]; simp only [World.putMap]; rw [Array.getElem?_setIfInBounds_ne (Ne.symm hdm)]; rfl
  have hd1 : ∀ o, o ≠ 2 → W1.cell? ⟨d, o, none⟩ = w.cell? ⟨d, o, none⟩ := fun o ho => by rw [HW1.out, cell_setCell_other _ _ _ _ _ (.inr ho)]
  refine ⟨rfl, ⟨clock, ⟨Nat.le_trans hbw t2.size, h.dlt, h.flt, h.clt, h.mlt, h.df, h.dc, h.dm, h.fc, h.fm, h.cm, ?_, ?_, ?_, ?_, ?_, ?_, ?_, ?_, h.room0, h.room1, ?_, ?_⟩⟩, t2⟩
  · rw [World.cell?_of_block (a := ⟨d, 0, none⟩) hd2, hd1 _ (by decide)]; exact h.c0
  · rw [World.cell?_of_block (a := ⟨d, 1, none⟩) hd2, hd1 _ (by decide)]; exact h.c1
  · rw [World.cell?_of_block (a := ⟨d, 2, none⟩) hd2, HW1.out, cell_setCell_same _ _ _ _ (by rw [h.c2]; rfl)]
    congr 2
    have := HU.out
    have := HN0.out
    have := HUD.out
    omega
  · rw [World.cell?_of_block (a := ⟨d, 3, none⟩) hd2, hd1 _ (by decide)]; exact h.c3
  · rw [World.frozen?_of_block (a := ⟨d, 2, none⟩) hd2, HW1.out, frozen_setCell]; exact h.f2
  · exact h.fuse.turn t2 (by have := h.df; have := h.fm; omega) (by have := h.dc; have := h.cm; omega)
  · have := mapIs_put (w := W1.drew) (m := m) (show m < W1.heap.size by omega) (delE name (fs.map Fl.en)) clock
    rw [← HW2.out, del_en name fs] at this
    exact this
  · exact (h.files.del name).turn t2 (fun k hk => by rcases hk with rfl | rfl <;> omega)
  · have := HUD.out
    have := HU.out
    omega
  · exact h.stamps.del name
end Go.Proofs.Ytiegokjdnlhlcaa

namespace Go.Proofs.Ytiegokjdnlhlcaa
open Go.Conc Go.RowKit

set_option maxRecDepth 100000 in
theorem do_remove (f c : Nat) (caps : Array Value) (A : List Ft) (w : World) (Q : World → Int → World → Prop) (h : Holds f c A w)
    (act : ∀ W, Holds f c (tryL A).2 W → Turn (Own f c) w W → Calls Try.prog 50 caps W fun e w' => ∃ er, e = .returned (.int .i64 er) ∧ Q W er w') :
    Calls Try.prog 49 #[.pointer (some ⟨f, 0, none⟩), .func (.func 50) #[] caps] w (Did f c A w Q) := by
  have HT := Lib.hid (try_any f c A w h)
  have HA := Lib.hid act
  clear act
  unfold Did
  rcases hr : (tryL A) with ⟨⟨works, done⟩, A'⟩
  rw [hr] at HT HA
  simp only
  cases done
  · cases works
    all_goals
      go_enter Try.func49, Try.ntmps49
      go_wp2_with fail
      refine HT.out.mono ?_
      rintro e w1 ⟨rfl, h1, t1⟩
      go_wp2
      go_ret
      exact ⟨w1, h1, t1, rfl, rfl⟩
  · cases works
    all_goals
      go_enter Try.func49, Try.ntmps49
      go_wp2_with fail
      refine HT.out.mono ?_
      rintro e w1 ⟨rfl, h1, t1⟩
      have C := Lib.hid (HA.out w1 h1 t1)
      go_wp2_with fail
      refine C.out.mono ?_
      rintro e w2 ⟨er, rfl, hq⟩
      by_cases h0 : er = 0
      · subst h0
        go_wp2
        go_ret
        exact ⟨w1, h1, t1, 0, hq, rfl⟩
      · have hd : (er != 0) = true := by simpa using h0
        go_wp2
        go_ret
        refine ⟨w1, h1, t1, er, hq, ?_⟩
        rw [if_neg h0]
        rfl

set_option maxRecDepth 100000 in
theorem do_rename (f c : Nat) (caps : Array Value) (A : List Ft) (w : World) (Q : World → Int → World → Prop) (h : Holds f c A w)
    (act : ∀ W, Holds f c (tryL A).2 W → Turn (Own f c) w W → Calls Try.prog 55 caps W fun e w' => ∃ er, e = .returned (.int .i64 er) ∧ Q W er w') :
    Calls Try.prog 49 #[.pointer (some ⟨f, 0, none⟩), .func (.func 55) #[] caps] w (Did f c A w Q) := by
  have HT := Lib.hid (try_any f c A w h)
  have HA := Lib.hid act
  clear act
  unfold Did
  rcases hr : (tryL A) with ⟨⟨works, done⟩, A'⟩
  rw [hr] at HT HA
  simp only
  cases done
  · cases works
    all_goals
      go_enter Try.func49, Try.ntmps49
      go_wp2_with fail
      refine HT.out.mono ?_
      rintro e w1 ⟨rfl, h1, t1⟩
      go_wp2
      go_ret
      exact ⟨w1, h1, t1, rfl, rfl⟩
  · cases works
    all_goals
      go_enter Try.func49, Try.ntmps49
      go_wp2_with fail
      refine HT.out.mono ?_
      rintro e w1 ⟨rfl, h1, t1⟩
      have C := Lib.hid (HA.out w1 h1 t1)
      go_wp2_with fail
      refine C.out.mono ?_
      rintro e w2 ⟨er, rfl, hq⟩
      by_cases h0 : er = 0
      · subst h0
        go_wp2
        go_ret
        exact ⟨w1, h1, t1, 0, hq, rfl⟩
      · have hd : (er != 0) = true := by simpa using h0
        go_wp2
        go_ret
        refine ⟨w1, h1, t1, er, hq, ?_⟩
        rw [if_neg h0]
        rfl

theorem Now.del {base d f c m : Nat} {room : Int} {fs : List Fl} {A : List Ft} {w w2 w4 : World} {name : ByteArray} (k : Below w.heap.size w w2)
    (D : ∃ clock', DiskAt base d f c m room (delF name fs) A clock' w4) (t : Turn (fun k => k = d ∨ k = m) w2 w4) : Now base d f c m room fs (delF name fs) A w w4 := by
  refine ⟨D, (Turn.of_below k).trans (t.mono fun k hk => by rcases hk with e | e; exact .inl e; exact .inr (.inr (.inr (.inl e)))), fun k hk => ?_⟩
  rcases hk with e | e | e | e | ⟨x, hxm, hxk⟩
  · exact .inl (.inl e)
  · exact .inl (.inr (.inl e))
  · exact .inl (.inr (.inr (.inl e)))
  · exact .inl (.inr (.inr (.inr (.inl e))))
  · exact .inl (.inr (.inr (.inr (.inr ⟨x, (del_sub name fs).subset hxm, hxk⟩))))

set_option maxRecDepth 100000 in
theorem remove1_any (base d f c m : Nat) (room : Int) (fs : List Fl) (A : List Ft) (clock : Nat) (name : ByteArray) (bd bn : Nat) (w : World) (h : DiskAt base d f c m room fs A clock w)
    (p0 : w.cell? ⟨bd, 0, none⟩ = some (.pointer (some ⟨d, 0, none⟩))) (p1 : w.cell? ⟨bn, 0, none⟩ = some (.string name)) :
    Calls Try.prog 50 #[.pointer (some ⟨bd, 0, none⟩), .pointer (some ⟨bn, 0, none⟩)] w fun e w' => ∃ er, e = .returned (.int .i64 er) ∧ er = 0 ∧ Now base d f c m room fs (delF name fs) A w w' := by
  have H := Lib.hid (fun W D => drop_any base d f c m room fs A clock name W D)
  go_enter Try.func50, Try.ntmps50
  go_wp2_with fail
  refine (H.out _ h).mono ?_
  rintro e w2 ⟨rfl, D2, t2⟩
  go_wp2
  go_ret
  exact ⟨0, rfl, rfl, Now.del (Below.refl _ w) D2 t2⟩

theorem remove_none (base d f c m : Nat) (room : Int) (fs : List Fl) (A : List Ft) (clock : Nat) (name : ByteArray) (w : World) (h : DiskAt base d f c m room fs A clock w) (hl : lookF name fs = none) :
    Calls Try.prog 38 #[.pointer (some ⟨d, 0, none⟩), .string name] w fun e w' => e = .returned (.int .i64 5) ∧ Now base d f c m room fs fs A w w' := by
  go_enter Try.func38, Try.ntmps38
  go_wp2_with fail
  obtain ⟨W0, hW0⟩ : ∃ W0, W0 = (w.alloc (.cells #[.pointer (some ⟨d, 0, none⟩)] 23)).alloc (.cells #[.string name] 9) := ⟨_, rfl⟩
  rw [← hW0]
  obtain ⟨b0, z0, k0, k1⟩ := boxes2 w _ _ _ _ W0 hW0
  have D0 := h.below b0
  have c3 := D0.c3
  have hm := D0.map
  have hdl : d < W0.heap.size := Nat.lt_of_lt_of_le h.dlt (Nat.le_trans h.hb b0.size)
  have hml : m < W0.heap.size := Nat.lt_of_lt_of_le h.mlt (Nat.le_trans h.hb b0.size)
  have hl0 := run_look (P := Try.prog) (w := W0) Try.underlying30 Try.underlying9 (fval (.slice none 0 0) 0) zero_file hm name true
  have hl1 := run_look (P := Try.prog) (w := W0.drew) Try.underlying30 Try.underlying9 (fval (.slice none 0 0) 0) zero_file hm name true
  have hl2 := run_look (P := Try.prog) (w := (W0.alloc (.cells #[.slice none 0 0, .int .i64 0] 53)).drew) Try.underlying30 Try.underlying9 (fval (.slice none 0 0) 0) zero_file (show MapIs m (fs.map Fl.en) clock _ from (Below.heap_alloc W0 _ _ hml).trans hm) name true
  have a3 : ∀ o, (W0.alloc o).cell? ⟨d, 3, none⟩ = some (.map (some m)) := fun o => (World.cell?_alloc_past _ _ _ hdl).trans c3
  have a0 : ∀ o, (W0.alloc o).cell? ⟨w.heap.size, 0, none⟩ = some (.pointer (some ⟨d, 0, none⟩)) := fun o => (World.cell?_alloc_past _ _ _ (show w.heap.size < W0.heap.size by omega)).trans k0
  have a1 : ∀ o, (W0.alloc o).cell? ⟨w.heap.size + 1, 0, none⟩ = some (.string name) := fun o => (World.cell?_alloc_past _ _ _ (show w.heap.size + 1 < W0.heap.size by omega)).trans k1
  rw [look_en, hl] at hl0 hl1 hl2
  simp only [if_true, Option.map_none, Option.getD_none, Option.isSome_none] at hl0 hl1 hl2
  unfold fval at hl0 hl1 hl2
  clear hW0
  go_region
  all_goals
    go_wp2
    go_ret
    refine ⟨rfl, Now.same h (b0.trans ?_)⟩
    exact ((Below.refl _ W0).alloc b0.size _).drew
theorem remove_go (base d f c m : Nat) (room : Int) (fs : List Fl) (A : List Ft) (clock : Nat) (name : ByteArray) (w : World) (h : DiskAt base d f c m room fs A clock w) (x : Fl) (hl : lookF name fs = some x) :
    Calls Try.prog 38 #[.pointer (some ⟨d, 0, none⟩), .string name] w fun e w' => e = .returned (.int .i64 (if (tryL A).1.1 then 0 else 8)) ∧
      Now base d f c m room fs (if (tryL A).1.2 then delF name fs else fs) (tryL A).2 w w' := by
  obtain ⟨hx, rfl⟩ := look_mem name fs x hl
  obtain ⟨a, cap, hv⟩ := (h.files.sl x hx).slice
  obtain ⟨n, hn⟩ : ∃ n, n = x.data.length := ⟨_, rfl⟩
  rw [← hn] at hv
  go_enter Try.func38, Try.ntmps38
  go_wp2_with fail
  obtain ⟨W0, hW0⟩ : ∃ W0, W0 = (w.alloc (.cells #[.pointer (some ⟨d, 0, none⟩)] 23)).alloc (.cells #[.string x.name] 9) := ⟨_, rfl⟩
  rw [← hW0]
  obtain ⟨b0, z0, k0, k1⟩ := boxes2 w _ _ _ _ W0 hW0
  have D0 := h.below b0
  have c3 := D0.c3
  have hm := D0.map
  have hdl : d < W0.heap.size := Nat.lt_of_lt_of_le h.dlt (Nat.le_trans h.hb b0.size)
  have hml : m < W0.heap.size := Nat.lt_of_lt_of_le h.mlt (Nat.le_trans h.hb b0.size)
  have hl0 := run_look (P := Try.prog) (w := W0) Try.underlying30 Try.underlying9 (fval (.slice none 0 0) 0) zero_file hm x.name true
  have hl1 := run_look (P := Try.prog) (w := W0.drew) Try.underlying30 Try.underlying9 (fval (.slice none 0 0) 0) zero_file hm x.name true
  have hl2 := run_look (P := Try.prog) (w := (W0.alloc (.cells #[.slice none 0 0, .int .i64 0] 53)).drew) Try.underlying30 Try.underlying9 (fval (.slice none 0 0) 0) zero_file (show MapIs m (fs.map Fl.en) clock _ from (Below.heap_alloc W0 _ _ hml).trans hm) x.name true
  have a3 : ∀ o, (W0.alloc o).cell? ⟨d, 3, none⟩ = some (.map (some m)) := fun o => (World.cell?_alloc_past _ _ _ hdl).trans c3
  have a0 : ∀ o, (W0.alloc o).cell? ⟨w.heap.size, 0, none⟩ = some (.pointer (some ⟨d, 0, none⟩)) := fun o => (World.cell?_alloc_past _ _ _ (show w.heap.size < W0.heap.size by omega)).trans k0
  have a1 : ∀ o, (W0.alloc o).cell? ⟨w.heap.size + 1, 0, none⟩ = some (.string x.name) := fun o => (World.cell?_alloc_past _ _ _ (show w.heap.size + 1 < W0.heap.size by omega)).trans k1
  rw [look_en, hl] at hl0 hl1 hl2
  simp only [if_true, Option.map_some, Option.getD_some, Option.isSome_some, Fl.en, hv] at hl0 hl1 hl2
  unfold fval at hl0 hl1 hl2
  clear hW0
  have HN := Lib.hid hn
  have HV := Lib.hid hv
  clear hn hv
  go_region
  all_goals
    obtain ⟨W1, hW1⟩ : ∃ W1, W1 = (W0.alloc (.cells #[.slice a n cap, .int .i64 x.sure] 53)).drew := ⟨_, rfl⟩
    rw [← hW1]
    have b01 : Below W0.heap.size W0 W1 := by rw [hW1]; exact ((Below.refl _ W0).alloc (Nat.le_refl _) _).drew
    have b1 : Below w.heap.size w W1 := b0.trans (b01.mono b0.size)
    have z1 : W1.heap.size = w.heap.size + 3 := by rw [hW1]; simp; omega
    have hblk : W1.heap[w.heap.size + 2]? = some (.cells #[.slice a n cap, .int .i64 x.sure] 53) := by rw [hW1, ← z0]; exact heap_alloc_new W0 _
    have q0 : W1.cell? ⟨w.heap.size, 0, none⟩ = some (.pointer (some ⟨d, 0, none⟩)) := (b01.cell (p := ⟨w.heap.size, 0, none⟩) (show w.heap.size < W0.heap.size by omega)).trans k0
    have q1 : W1.cell? ⟨w.heap.size + 1, 0, none⟩ = some (.string x.name) := (b01.cell (p := ⟨w.heap.size + 1, 0, none⟩) (show w.heap.size + 1 < W0.heap.size by omega)).trans k1
    obtain ⟨q2, q3, _, _⟩ := box2 hblk
    have D1 := h.below b1
    have e0 := D1.c0
    clear hl0 hl1 hl2 a0 a1 a3 hW1 hblk c3 k0 k1
    have HD := Lib.hid (do_remove f c #[.pointer (some ⟨w.heap.size, 0, none⟩), .pointer (some ⟨w.heap.size + 1, 0, none⟩)] A W1
      (fun W er w' => er = 0 ∧ Now base d f c m room fs (delF x.name fs) (tryL A).2 W w') D1.fuse (by
        intro W hA t
        have D2 := D1.tried t hA
        have hown : ∀ k, w.heap.size ≤ k → ¬ Own f c k := fun k hk e => by
          rcases e with e | e
          · have := h.flt; have := h.hb; omega
          · have := h.clt; have := h.hb; omega
        have ht : ∀ k o v, k < W1.heap.size → w.heap.size ≤ k → W1.cell? ⟨k, o, none⟩ = some v → W.cell? ⟨k, o, none⟩ = some v := fun k o v hk hk2 hc => (t.cell (p := ⟨k, o, none⟩) hk (hown k hk2)).trans hc
        refine (remove1_any base d f c m room fs (tryL A).2 clock x.name w.heap.size (w.heap.size + 1) W D2 (ht _ _ _ (by omega) (by omega) q0) (ht _ _ _ (by omega) (by omega) q1)).mono ?_
        · rintro e w' ⟨er, he, h0, hv⟩
          exact ⟨er, he, h0, hv⟩))
    go_wp2_with fail
    refine HD.out.mono ?_
    rintro e w2 ⟨W, hA, t, hif⟩
    have N1 : Now base d f c m room fs fs (tryL A).2 w W := Now.tried h b1 t hA
    cases hdn : (tryL A).1.2
    · rw [hdn] at hif
      obtain ⟨rfl, rfl⟩ := hif
      go_wp2
      all_goals
        go_ret
        exact ⟨rfl, N1⟩
    · rw [hdn] at hif
      obtain ⟨er, ⟨rfl, hv⟩, rfl⟩ := hif
      go_wp2
      all_goals
        go_ret
        exact ⟨rfl, N1.trans hv⟩
end Go.Proofs.Ytiegokjdnlhlcaa

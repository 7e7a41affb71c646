/- DiskOthers. -/
import Derived.Test.YtfjihookoilnnaaE7
namespace Go.Proofs.Ytfjihookoilnnaa
open Go.Conc Go.RowKit

abbrev nM : ByteArray := ⟨#[109, 105, 110, 101]⟩
theorem first_ne (b : UInt8) (hb : b ≠ 109) (s : ByteArray) : nM ≠ (⟨#[b]⟩ : ByteArray) ++ s := by
  intro h
  have h2 := congrArg (fun x : ByteArray => x.data.toList.head?) h
  simp only [ByteArray.data_append, Array.toList_append] at h2
  simp at h2
  exact hb h2.symm

/-- Append, of a world that came of w0; boxes of that time stand. -/
theorem mn_append2 (B base d f c m : Nat) (k : ByteArray) (D : List UInt8) (nf : Nat) (name s : ByteArray) (w0 w : World) (h : Mn base d f c m k D nf w0) (b0 : Below w0.heap.size w0 w) (hB : Home B base d f c m) (hk : k ≠ name) :
    Calls Try.prog 37 #[.pointer (some ⟨d, 0, none⟩), .string name, .string s] w fun e w' => ∃ er, e = .returned (.int .i64 er) ∧ Mn base d f c m k D (nf + 1) w' ∧ Below B w w' ∧ ∀ X, w0.heap.size ≤ X → X < w.heap.size → w'.heap[X]? = w.heap[X]? := by
  obtain ⟨fs, A, clock, x, h0, hx, hd, hz, hn⟩ := h
  have h := h0.below b0
  have old : ∀ {w' : World}, Turn (Mine d f c m fs) w w' → ∀ X, w0.heap.size ≤ X → X < w.heap.size → w'.heap[X]? = w.heap[X]? := fun t X h1 h2 => t.block X h2 fun hm => by have := Mine.lt h0 X hm; omega
  by_cases h1 : 0 < name.size ∧ name.size ≤ 40
  · by_cases h2 : (100000 : Int) - usedF fs < s.size
    · refine (append_full base d f c m 100000 fs A clock name s w h h1 h2).mono ?_
      rintro e w' ⟨rfl, n⟩
      refine ⟨_, rfl, ?_, n.below h hB, old n.2.1⟩
      obtain ⟨⟨ck, D'⟩, _⟩ := n
      exact ⟨fs, A, ck, x, D', hx, hd, hz, by omega⟩
    · refine (append_go base d f c m 100000 fs A clock name s w h h1 h2 (by omega)).mono ?_
      rintro e w' ⟨rfl, v, n⟩
      refine ⟨_, rfl, ?_, n.below h hB, old n.2.1⟩
      obtain ⟨⟨ck, D'⟩, _⟩ := n
      refine ⟨_, _, ck, x, D', ?_, hd, hz, ?_⟩
      · split
        · rw [look_set_other _ _ _ _ _ _ hk]; exact hx
        · exact hx
      · split
        · have := set_len name v (dataF name fs ++ s.data.toList) (sureF name fs) clock fs
          omega
        · omega
  · refine (append_bad base d f c m 100000 fs A clock name s w h h1).mono ?_
    rintro e w' ⟨rfl, n⟩
    refine ⟨_, rfl, ?_, n.below h hB, old n.2.1⟩
    obtain ⟨⟨ck, D'⟩, _⟩ := n
    exact ⟨fs, A, ck, x, D', hx, hd, hz, by omega⟩
theorem mn_arm2 (B base d f c m : Nat) (k : ByteArray) (D : List UInt8) (nf : Nat) (a : Int) (dn : Bool) (w0 w : World) (h : Mn base d f c m k D nf w0) (b0 : Below w0.heap.size w0 w) (hB : Home B base d f c m) (ha : Ft.Fits (a, dn)) :
    Calls Try.prog 21 #[.pointer (some ⟨f, 0, none⟩), .int .i64 a, .bool dn] w fun e w' => ∃ er, e = .returned (.int .i64 er) ∧ Mn base d f c m k D nf w' ∧ Below B w w' ∧ ∀ X, w0.heap.size ≤ X → X < w.heap.size → w'.heap[X]? = w.heap[X]? := by
  obtain ⟨fs, A, clock, x, h0, r⟩ := h
  have h := h0.below b0
  have old : ∀ {w' : World}, Turn (Own f c) w w' → ∀ X, w0.heap.size ≤ X → X < w.heap.size → w'.heap[X]? = w.heap[X]? := fun t X h1 h2 => t.block X h2 fun hm => by
    have := h0.flt; have := h0.clt; have := h0.hb
    rcases hm with e | e <;> omega
  refine (arm_any f c A a dn w h.fuse ha).mono ?_
  rintro e w' (⟨rfl, hA, t⟩ | ⟨rfl, rfl⟩)
  · have n : Now base d f c m 100000 _ _ _ w w' := Now.tried h (Below.refl _ w) t hA
    exact ⟨_, rfl, ⟨fs, _, clock, x, h.tried t hA, r⟩, n.below h hB, old t⟩
  · exact ⟨_, rfl, ⟨fs, A, clock, x, h, r⟩, Below.refl _ _, fun _ _ _ => rfl⟩

/-- DiskOthers' loop. -/
def Leaving (base d f c m : Nat) (D : List UInt8) (w0 : World) (vi : Value) (wr : World) : Prop :=
  ∃ (i : Nat), vi = .int .i64 i ∧ i ≤ 25 ∧ Mn base d f c m nM D (i + 1) wr ∧ Below w0.heap.size w0 wr

set_option maxHeartbeats 1000000 in
set_option maxRecDepth 100000 in
theorem dothers_any (a0 : ByteArray) (a1 : Option Addr) (len1 cap1 : Nat) (z1 : List Ac) (w : World) (w1 : ActsAt w a1 len1 z1) :
    Calls Try.prog 10 #[.string a0, .slice a1 len1 cap1] w fun e w' => e = .returned (.bool true) ∧ Below w.heap.size w w' := by
  obtain ⟨a, ha⟩ : ∃ a, a = cutB a0 60 := ⟨_, rfl⟩
  have ha60 : a.size ≤ 60 := by
    rw [ha]
    obtain ⟨l, h, hl⟩ := cut_list a0 60
    rw [h]
    simpa [bs, ByteArray.size] using hl
  have K0 := fun W => cut_any a0 60 W (by decide)
  rw [show (60 : Int).toNat = 60 from rfl, ← ha] at K0
  have HK0 := Lib.hid K0
  have HNew := Lib.hid (fun W => new_home 100000 W (by decide) (by decide))
  have HAw := Lib.hid (fun W => dawake_any W)
  clear K0 ha
  obtain ⟨hzl, hzf, hza⟩ := w1
  go_enter Try.func10, Try.ntmps10
  go_wp2_with fail
  refine (HK0.out _).mono ?_
  rintro e x1 ⟨rfl, rfl⟩
  go_wp2_with fail
  refine (HNew.out _).mono ?_
  rintro e x1 ⟨base, d, f, c, m, rfl, D1, hH, b1⟩
  go_wp2_with fail
  refine (HAw.out _).mono ?_
  rintro e x2 ⟨rfl, b2⟩
  have D2 := D1.below b2
  have C1 := Lib.hid (one_append0 w.heap.size _ _ _ _ _ _ _ nM a x2 D2 hH (by decide) (by omega) (by omega))
  go_wp2_with fail
  refine C1.out.mono ?_
  rintro e x3 ⟨rfl, O3, b3⟩
  have C2 := Lib.hid (one_sync w.heap.size _ _ _ _ _ _ _ _ _ x3 O3 hH)
  go_wp2_with fail
  refine C2.out.mono ?_
  rintro e x4 ⟨rfl, O4, b4⟩
  have M4 : Mn base d f c m nM a.data.toList 1 x4 := by
    obtain ⟨v, b, ck, D4⟩ := O4
    exact ⟨_, [], ck, ⟨nM, v, a.data.toList, a.data.toList.length, b⟩, D4, by simp only [lookF, if_true], rfl, Nat.sub_self _, Nat.le_refl _⟩
  have bA : Below w.heap.size w x4 := ((b1.trans (b2.mono b1.size)).trans b3).trans b4
  clear C1 C2 D1 D2 O3 O4 b1 b2 b3 b4
  go_wp2_with fail
  go_loopw [6] (fun vi wr => Leaving base d f c m a.data.toList w vi wr) (fun vi _ => 25 - (RowKit.intOf vi).toNat)
  case atStart => exact ⟨0, rfl, by omega, M4, bA⟩
  case round =>
    obtain ⟨i, rfl, hi, M, bR⟩ := hrel
    by_cases hlt : i < len1 ∧ i < 25
    · obtain ⟨h3, h4⟩ := hlt
      obtain ⟨g, off, rfl, hg, hcell⟩ := hza (by omega)
      obtain ⟨t, ht⟩ : ∃ t, z1[i]? = some t := ⟨z1[i]'(by omega), List.getElem?_eq_getElem (by omega)⟩
      have F := hzf t (List.mem_of_getElem? ht)
      obtain ⟨q0, q1, q2, q3, q4, q5⟩ := hcell i t ht
      have r0 := (bR.cell (p := ⟨g, off + i * 6, none⟩) hg).trans q0
      have r1 := (bR.cell (p := ⟨g, off + i * 6 + 1, none⟩) hg).trans q1
      have r2 := (bR.cell (p := ⟨g, off + i * 6 + 2, none⟩) hg).trans q2
      have r3 := (bR.cell (p := ⟨g, off + i * 6 + 3, none⟩) hg).trans q3
      have r4 := (bR.cell (p := ⟨g, off + i * 6 + 4, none⟩) hg).trans q4
      have r5 := (bR.cell (p := ⟨g, off + i * 6 + 5, none⟩) hg).trans q5
      have i4 : (i : Int) < 25 := by omega
      obtain ⟨tk, tn, ta, tb, td, av, lv, cv, ch⟩ := t
      simp only at r0 r1 r2 r3 r4 r5
      have HFit := Lib.hid F
      clear q0 q1 q2 q3 q4 q5 hcell ht F hza hzf hzl
      have K8 := Lib.hid (fun W => cut_any ta 8 W (by decide))
      obtain ⟨s8, hs8⟩ : ∃ s8, s8 = cutB ta 8 := ⟨_, rfl⟩
      have h8 : s8.size ≤ 8 := by
        rw [hs8]
        obtain ⟨l, h, hl⟩ := cut_list ta 8
        rw [h]
        simpa [bs, ByteArray.size] using hl
      rw [show (8 : Int).toNat = 8 from rfl, ← hs8] at K8
      obtain ⟨nx, hnx⟩ : ∃ nx : ByteArray, nx = (⟨#[120]⟩ : ByteArray) ++ s8 := ⟨_, rfl⟩
      have hxm : nM ≠ nx := by rw [hnx]; exact first_ne 120 (by decide) s8
      have hblk := heap_alloc_new wr (.cells #[.int .i64 tk, .int .i64 tn, .string ta, .string tb, .bool td, .slice av lv cv] 78)
      clear hs8
      go_wp2_with fail
      refine (K8.out _).mono ?_
      rintro e y1 ⟨rfl, rfl⟩
      obtain ⟨W1, hW1⟩ : ∃ W1, W1 = wr.alloc (.cells #[.int .i64 tk, .int .i64 tn, .string ta, .string tb, .bool td, .slice av lv cv] 78) := ⟨_, rfl⟩
      rw [← hW1] at hblk ⊢
      have bW1 : Below wr.heap.size wr W1 := by rw [hW1]; exact (Below.refl _ wr).alloc (Nat.le_refl _) _
      have zW1 : W1.heap.size = wr.heap.size + 1 := by rw [hW1]; simp
      have hcel : ∀ o v, (#[Value.int .i64 tk, .int .i64 tn, .string ta, .string tb, .bool td, .slice av lv cv] : Array Value)[o]? = some v → W1.cell? ⟨wr.heap.size, o, none⟩ = some v := fun o v hv => by
        rw [cell_of_row _ _ o _ _ _ hblk]; exact hv
      have k2 := hcel 2 _ rfl
      have kf : W1.frozen? ⟨wr.heap.size, 2, none⟩ = false := by simp only [World.frozen?, hblk]; rfl
      have HF3 := Lib.hid (show W1.frozen? ⟨wr.heap.size, 3, none⟩ = false by simp only [World.frozen?, hblk]; rfl)
      obtain ⟨W2, hW2⟩ : ∃ W2, W2 = W1.setCell ⟨wr.heap.size, 2, none⟩ (.string nx) := ⟨_, rfl⟩
      have bW2 : Below wr.heap.size wr W2 := by rw [hW2]; exact bW1.setCell (Nat.le_refl _) _
      have n2 : W2.cell? ⟨wr.heap.size, 2, none⟩ = some (.string nx) := by rw [hW2]; exact cell_setCell_same _ _ _ _ (by rw [k2]; rfl)
      have no : ∀ o v, o ≠ 2 → (#[Value.int .i64 tk, .int .i64 tn, .string ta, .string tb, .bool td, .slice av lv cv] : Array Value)[o]? = some v → W2.cell? ⟨wr.heap.size, o, none⟩ = some v := fun o v ho hv => by
        rw [hW2, cell_setCell_other _ _ _ _ _ (.inr ho)]; exact hcel o v hv
      have n0 := no 0 _ (by decide) rfl
      have n1 := no 1 _ (by decide) rfl
      have n3 := no 3 _ (by decide) rfl
      have n4 := no 4 _ (by decide) rfl
      have n5 := no 5 _ (by decide) rfl
      have M2 := M.below bW2
      have HW1 := Lib.hid hW1
      clear hW1 hblk hcel no r0 r1 r2 r3 r4 r5
      rw [hnx] at hW2 n2
      rw [hW2] at n0 n1 n2 n3 n4 n5
      have HW2 := Lib.hid hW2
      clear hW2
      by_cases t3 : tk = 3
      · subst t3
        have K8b := Lib.hid (fun W => cut_any tb 8 W (by decide))
        rw [show (8 : Int).toNat = 8 from rfl] at K8b
        obtain ⟨s8b, hs8b⟩ : ∃ s8b, s8b = cutB tb 8 := ⟨_, rfl⟩
        rw [← hs8b] at K8b
        have h8b : s8b.size ≤ 8 := by
          rw [hs8b]
          obtain ⟨l, h, hl⟩ := cut_list tb 8
          rw [h]
          simpa [bs, ByteArray.size] using hl
        obtain ⟨ny, hny⟩ : ∃ ny : ByteArray, ny = (⟨#[121]⟩ : ByteArray) ++ s8b := ⟨_, rfl⟩
        have hxm2 : nM ≠ ny := by rw [hny]; exact first_ne 121 (by decide) s8b
        have kf3 : W1.frozen? ⟨wr.heap.size, 3, none⟩ = false := HF3.out
        have nf3 : (W1.setCell ⟨wr.heap.size, 2, none⟩ (.string ((⟨#[120]⟩ : ByteArray) ++ s8))).frozen? ⟨wr.heap.size, 3, none⟩ = false := by rw [frozen_setCell]; exact kf3
        clear hs8b
        obtain ⟨W3, hW3⟩ : ∃ W3, W3 = W2.setCell ⟨wr.heap.size, 3, none⟩ (.string ny) := ⟨_, rfl⟩
        have bW3 : Below wr.heap.size wr W3 := by rw [hW3]; exact bW2.setCell (Nat.le_refl _) _
        have m0 : W3.cell? ⟨wr.heap.size, 0, none⟩ = some (.int .i64 3) := by rw [hW3, cell_setCell_other _ _ _ _ _ (.inr (by simp)), HW2.out]; exact n0
        have m2 : W3.cell? ⟨wr.heap.size, 2, none⟩ = some (.string nx) := by rw [hW3, cell_setCell_other _ _ _ _ _ (.inr (by simp)), HW2.out, hnx]; exact n2
        have m3 : W3.cell? ⟨wr.heap.size, 3, none⟩ = some (.string ny) := by rw [hW3]; exact cell_setCell_same _ _ _ _ (by rw [HW2.out, n3]; rfl)
        rw [hW3, HW2.out, hny] at m0 m2 m3
        rw [hnx] at m2
        have HRn := Lib.hid (mn_rename w.heap.size base d f c m nM a.data.toList (i + 1) nx ny W3 (M.below bW3) hH hxm hxm2)
        rw [HW2.out, hny] at hW3
        have HW3 := Lib.hid hW3
        clear hW3 M2
        go_wp2_with fail
        refine (K8b.out _).mono ?_
        rintro e y1 ⟨rfl, rfl⟩
        go_wp2_with fail
        rw [← HW3.out, ← hnx, ← hny]
        refine HRn.out.mono ?_
        rintro e y2 ⟨er, rfl, M3, b3⟩
        go_wp2
        exact ⟨⟨i + 1, by go_num, by omega, M3.more (by omega), (bR.trans (bW3.mono bR.size)).trans b3⟩, by simp [RowKit.intOf]; omega⟩
      · have x3 : (tk == 3) = false := by simpa using t3
        by_cases t2 : tk = 2
        · subst t2
          go_wp2_with fail
          rw [← HW2.out, ← hnx]
          refine (mn_sync w.heap.size base d f c m nM _ (i + 1) nx W2 M2 hH hxm).mono ?_
          rintro e y1 ⟨er, rfl, M3, b3⟩
          go_wp2
          exact ⟨⟨i + 1, by go_num, by omega, M3.more (by omega), (bR.trans (bW2.mono bR.size)).trans b3⟩, by simp [RowKit.intOf]; omega⟩
        · have x2 : (tk == 2) = false := by simpa using t2
          by_cases t4 : tk = 4
          · subst t4
            go_wp2_with fail
            rw [← HW2.out, ← hnx]
            refine (mn_remove w.heap.size base d f c m nM _ (i + 1) nx W2 M2 hH hxm).mono ?_
            rintro e y1 ⟨er, rfl, M3, b3⟩
            go_wp2
            exact ⟨⟨i + 1, by go_num, by omega, M3.more (by omega), (bR.trans (bW2.mono bR.size)).trans b3⟩, by simp [RowKit.intOf]; omega⟩
          · have x4 : (tk == 4) = false := by simpa using t4
            have bB : Below w.heap.size w W2 := bR.trans (bW2.mono bR.size)
            by_cases t5 : tk = 5
            · subst t5
              obtain ⟨_, hii, hrr, hbb⟩ := HFit.out.ints
              simp only at hii hrr hbb
              have CC := Lib.hid (mn_crash w.heap.size base d f c m nM _ (i + 1) (.slice av lv cv) ch (if 0 < ch.length then (Value.slice av lv cv).ownBlock else none) W2 W2 M2 (Below.refl _ _) hH (by omega) (hii.on fun h0 k hk => bB.block k (hbb h0 k hk)) hrr (fun h0 k hk => by rw [if_pos h0]; exact hk) (fun k hk => by
                split at hk
                · rename_i h0
                  have h1 := hbb h0 k hk
                  have h2 := bB.size
                  exact ⟨by omega, .inl h1⟩
                · cases hk))
              clear hii hrr hbb
              go_wp2_with fail
              rw [← HW2.out]
              refine CC.out.mono ?_
              rintro e y1 ⟨rfl, M3, b3⟩
              go_wp2
              exact ⟨⟨i + 1, by go_num, by omega, M3.more (by omega), bB.trans b3⟩, by simp [RowKit.intOf]; omega⟩
            · have x5 : (tk == 5) = false := by simpa using t5
              by_cases t1 : tk = 1
              · subst t1
                have K50 := Lib.hid (fun W => cut_any tb 50 W (by decide))
                have z2 : wr.heap.size < W2.heap.size := by rw [HW2.out]; simp only [World.setCell]; simp; omega
                have HAp := Lib.hid (fun s W b => mn_append2 w.heap.size base d f c m nM a.data.toList (i + 1) nx s wr W M b hH hxm)
                go_wp2_with fail
                rw [← HW2.out] at n2 n3 ⊢
                rw [← hnx] at n2
                have hold : ∀ w' : World, w'.heap[wr.heap.size]? = W2.drew.heap[wr.heap.size]? → w'.cell? ⟨wr.heap.size, 2, none⟩ = some (.string nx) ∧ w'.cell? ⟨wr.heap.size, 3, none⟩ = some (.string tb) := fun w' hb => ⟨(World.cell?_of_block (w := W2) (a := ⟨wr.heap.size, 2, none⟩) hb).trans n2, (World.cell?_of_block (w := W2) (a := ⟨wr.heap.size, 3, none⟩) hb).trans n3⟩
                have HO := Lib.hid hold
                have HNX := Lib.hid hnx
                clear hold n0 n1 n4 n5 hnx
                go_region_held3 (fun W => W.cell? ⟨wr.heap.size, 2, none⟩ = some (.string nx) ∧ W.cell? ⟨wr.heap.size, 3, none⟩ = some (.string tb)) (first | exact ⟨n2, n3⟩ | assumption)
                  (first
                    | (go_at_call 18; refine (K50.out _).mono ?_; rintro e y5 ⟨rfl, rfl⟩)
                    | (go_at_call 37; refine (HAp.out _ _ bW2.drew).mono ?_; rintro e y6 ⟨er, rfl, M6, b6, old6⟩; have d6 := HO.out y6 (old6 _ (Nat.le_refl _) z2)))
                go_wp2
                have bB : Below w.heap.size w W2 := bR.trans (bW2.mono bR.size)
                exact ⟨⟨i + 1, by go_num, by omega, M6.more (by omega), bB.drew.trans b6⟩, by simp [RowKit.intOf]; omega⟩
              · have y1 : (tk == 1) = false := by simpa using t1
                by_cases t6 : tk = 6
                · subst t6
                  have z2 : wr.heap.size < W2.heap.size := by rw [HW2.out]; simp only [World.setCell]; simp; omega
                  have hd0 := M2.c0
                  have hdl : d < wr.heap.size := by
                    obtain ⟨fs, A, ck, x, D', _⟩ := M
                    have := D'.dlt; have := D'.hb
                    omega
                  have hft : Ft.Fits (tn, td) := by unfold Ft.Fits; exact ⟨HFit.out.n0, HFit.out.n1⟩
                  have HAp := Lib.hid (fun W b => mn_arm2 w.heap.size base d f c m nM a.data.toList (i + 1) tn td wr W M b hH hft)
                  go_wp2_with fail
                  rw [← HW2.out] at n1 n4 ⊢
                  have hold : ∀ w' : World, w'.heap[wr.heap.size]? = W2.drew.heap[wr.heap.size]? → w'.cell? ⟨wr.heap.size, 1, none⟩ = some (.int .i64 tn) ∧ w'.cell? ⟨wr.heap.size, 4, none⟩ = some (.bool td) := fun w' hb => ⟨(World.cell?_of_block (w := W2) (a := ⟨wr.heap.size, 1, none⟩) hb).trans n1, (World.cell?_of_block (w := W2) (a := ⟨wr.heap.size, 4, none⟩) hb).trans n4⟩
                  have HO := Lib.hid hold
                  have HNX := Lib.hid hnx
                  clear hold n0 n2 n3 n5 hnx
                  go_region_held3 (fun W => W.cell? ⟨d, 0, none⟩ = some (.pointer (some ⟨f, 0, none⟩)) ∧ W.cell? ⟨wr.heap.size, 1, none⟩ = some (.int .i64 tn) ∧ W.cell? ⟨wr.heap.size, 4, none⟩ = some (.bool td)) (first | exact ⟨hd0, n1, n4⟩ | assumption)
                    (first
                      | (go_at_call 21; refine (HAp.out _ bW2.drew).mono ?_; rintro e y6 ⟨er, rfl, M6, b6, old6⟩; have d6 := And.intro M6.c0 (HO.out y6 (old6 _ (Nat.le_refl _) z2))))
                  go_wp2
                  exact ⟨⟨i + 1, by go_num, by omega, M6.more (by omega), bB.drew.trans b6⟩, by simp [RowKit.intOf]; omega⟩
                · have y6 : (tk == 6) = false := by simpa using t6
                  go_wp2
                  rw [← HW2.out]
                  exact ⟨⟨i + 1, by go_num, by omega, M2.more (by omega), bB⟩, by simp [RowKit.intOf]; omega⟩
    · have hlt' : ¬ (i < len1 ∧ i < 25) := hlt
      have C := Lib.hid (mn_read base d f c m nM a.data.toList _ wr M)
      clear hza hzf hzl
      by_cases h3 : i < len1
      all_goals
        first
          | (have i20 : i = 25 := by omega
             subst i20)
          | skip
        clear hlt hlt'
        go_wp2_with fail
        refine C.out.mono ?_
        rintro e x5 ⟨rfl, b5⟩
        go_wp2
        go_ret
        exact ⟨rfl, bR.trans (b5.mono bR.size)⟩
end Go.Proofs.Ytfjihookoilnnaa

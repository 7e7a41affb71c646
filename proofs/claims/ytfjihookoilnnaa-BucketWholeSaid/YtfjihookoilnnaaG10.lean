/- Layer 5: List; BucketLast. -/
import Derived.Test.YtfjihookoilnnaaG9
import Derived.Test.YtfjihookoilnnaaE2
namespace Go.Proofs.Ytfjihookoilnnaa
open Go.Conc Go.RowKit

set_option maxHeartbeats 1000000 in
set_option maxRecDepth 100000 in
/-- List, where the fuse lets it. -/
theorem blist_go (B k f c m : Nat) (os : List Ob) (A : List Ft) (p : ByteArray) (w : World) (h : Bk k f c m os A w) (hB : BHome B k f c m) (hfew : os.length ≤ 1000) (hw : (tryL A).1.1 = true) :
    Calls Try.prog 24 #[.pointer (some ⟨k, 0, none⟩), .string p] w fun e w' => ∃ v ds, e = .returned (.tuple #[v, .int .i64 0]) ∧
      ds.Perm (infsO p os) ∧ ds.Pairwise (fun x y => ¬ y.name.data.toList < x.name.data.toList) ∧ Sl w' w.heap.size 3 v ds.length (infc ds) ∧ Bk k f c m os (tryL A).2 w' ∧ Below B w w' := by
  obtain ⟨ck, h⟩ := h
  have HL := Lib.hid (look_any k f c m os A ck w h)
  rw [hw] at HL
  have HK := Lib.hid (fun W D => blooks k f c m os (tryL A).2 p W D hfew)
  go_enter Try.func24, Try.ntmps24
  go_wp2_with fail
  refine HL.out.mono ?_
  rintro e w1 ⟨rfl, n1⟩
  have C := Lib.hid (HK.out w1 n1.1)
  go_wp2_with fail
  refine C.out.mono ?_
  rintro e w2 ⟨v, ds, rfl, hp, hs, hsl, b2⟩
  go_wp2
  go_ret2
  have hk := h.klt
  exact ⟨v, ds, rfl, hp, hs, hsl.mono n1.2.size, Bk.below n1.1 b2, (n1.below h hB).trans (b2.mono (by have := hB.k; have := n1.2.size; omega))⟩
set_option maxHeartbeats 1000000 in
set_option maxRecDepth 100000 in
/-- List, where it fails. -/
theorem blist_fail (B k f c m : Nat) (os : List Ob) (A : List Ft) (p : ByteArray) (w : World) (h : Bk k f c m os A w) (hB : BHome B k f c m) (hw : (tryL A).1.1 = false) :
    Calls Try.prog 24 #[.pointer (some ⟨k, 0, none⟩), .string p] w fun e w' => e = .returned (.tuple #[.slice none 0 0, .int .i64 8]) ∧ Bk k f c m os (tryL A).2 w' ∧ Below B w w' := by
  obtain ⟨ck, h⟩ := h
  have HL := Lib.hid (look_any k f c m os A ck w h)
  rw [hw] at HL
  go_enter Try.func24, Try.ntmps24
  go_wp2_with fail
  refine HL.out.mono ?_
  rintro e w1 ⟨rfl, n1⟩
  go_wp2
  go_ret2
  exact ⟨rfl, n1.1, n1.below h hB⟩

/-- BucketLast's object behind i rounds. -/
def lastO (z0 : List ByteArray) (z1 : List Int) (ck : Nat) : Nat → List Ob
  | 0 => []
  | i + 1 => [⟨nO, cutB (z0.getD i ByteArray.empty) 60, z1.getD i 0, ck⟩]
theorem set_last (z0 : List ByteArray) (z1 : List Int) (ck b i : Nat) : ∃ b', setO nO (cutB (z0.getD i ByteArray.empty) 60) (z1.getD i 0) b (lastO z0 z1 ck i) = lastO z0 z1 b' (i + 1) := by
  cases i with
  | zero => exact ⟨b, rfl⟩
  | succ i => exact ⟨ck, by simp [lastO, setO]⟩

set_option maxHeartbeats 2000000 in
set_option maxRecDepth 100000 in
theorem blast_any (a0 : Option Addr) (len0 cap0 : Nat) (z0 : List ByteArray) (a1 : Option Addr) (len1 cap1 : Nat) (z1 : List Int) (w : World) (m0 : len0 ≤ maxLen) (w0 : StrsAt w a0 len0 z0) (m1 : len1 ≤ maxLen) (w1 : IntsAt w a1 len1 cap1 z1) :
    Calls Try.prog 7 #[.slice a0 len0 cap0, .slice a1 len1 cap1] w fun e w' => e = .returned (.bool true) ∧ Below w.heap.size w w' := by
  have HN := Lib.hid (fun W => bnew_home W)
  have HA := Lib.hid (fun W => bawake_any W)
  have HCut := Lib.hid (fun x W => show Calls Try.prog 18 #[.string x, .int .i64 60] W (fun e w' => e = .returned (.string (cutB x 60)) ∧ W = w') from cut_any x 60 W (by decide))
  by_cases hz : len0 = 0 ∨ len1 = 0
  · go_enter Try.func7, Try.ntmps7
    go_wp2_with fail
    refine (HN.out _).mono ?_
    rintro e x1 ⟨k, f, c, m, rfl, D1, hH, b1⟩
    go_wp2_with fail
    all_goals
      refine (HA.out _).mono ?_
      rintro e x2 ⟨rfl, b2⟩
      first
        | (have q : len1 = 0 := by omega
           clear hz)
        | (have q : len0 = 0 := by omega
           clear hz)
      go_wp2_with fail
      refine (HA.out _).mono ?_
      rintro e x3 ⟨rfl, b3⟩
      go_wp2
      go_ret
      exact ⟨rfl, below_step (below_step b1 b2) b3⟩
  · have p0 : 0 < len0 := by omega
    have p1 : 0 < len1 := by omega
    clear hz
    go_enter Try.func7, Try.ntmps7
    go_wp2_with fail
    refine (HN.out _).mono ?_
    rintro e x1 ⟨k, f, c, m, rfl, D1, hH, b1⟩
    go_wp2_with fail
    all_goals
      refine (HA.out _).mono ?_
      rintro e x2 ⟨rfl, b2⟩
      have D2 := D1.below b2
      have bA := below_step b1 b2
      clear D1 b1 b2
      obtain ⟨N, hN, hN0, hN1, hN10, hNp⟩ : ∃ N : Nat, (N = len1 ∨ N = len0 ∨ N = 10) ∧ N ≤ len0 ∧ N ≤ len1 ∧ N ≤ 10 ∧ 0 < N := by
        first
          | exact ⟨len1, by omega, by omega, by omega, by omega, by omega⟩
          | exact ⟨len0, by omega, by omega, by omega, by omega, by omega⟩
          | exact ⟨10, by omega, by omega, by omega, by omega, by omega⟩
      go_wp2_with fail
      try (rename ((len1 : Int) == 0) = false => hbad; clear hbad)
      try (rename ((len0 : Int) == 0) = false => hbad; clear hbad)
      go_loopw [7] (fun vi wr => ∃ (i ck : Nat), vi = .int .i64 i ∧ i ≤ N ∧ Bk k f c m (lastO z0 z1 ck i) [] wr ∧ Below w.heap.size w wr) (fun vi _ => 10 - (RowKit.intOf vi).toNat)
      case atStart => exact ⟨0, 0, rfl, by omega, D2, bA⟩
      case round =>
        obtain ⟨i, ck, rfl, hi, D, bR⟩ := hrel
        by_cases hlt : i < N
        · obtain ⟨g0, o0, rfl, hg0, hc0⟩ := w0.2.2 p0
          obtain ⟨a1', cap1', e1, hcap, hc1⟩ := w1.2.1
          have hl1 := w1.1
          simp only [Value.slice.injEq] at e1
          obtain ⟨rfl, e2, e3⟩ := e1
          clear e2 e3
          obtain ⟨g1, o1, rfl, hd1⟩ := hc1 (by omega)
          have hg1 : g1 < w.heap.size := w1.2.2.2 (by omega) g1 rfl
          have r0 := (bR.cell (p := ⟨g0, o0 + i, none⟩) hg0).trans (hc0 i (by omega))
          have r1 := (bR.cell (p := ⟨g1, o1 + i, none⟩) hg1).trans (hd1 i (by omega))
          have HP := Lib.hid (fun x t W D => bput_go w.heap.size k f c m (lastO z0 z1 ck i) [] nO x t W D hH (by decide))
          have q0 : (i : Int) < len0 := by omega
          have q1 : (i : Int) < len1 := by omega
          have q2 : (i : Int) < 10 := by omega
          obtain ⟨x, hx⟩ : ∃ x, x = z0.getD i ByteArray.empty := ⟨_, rfl⟩
          obtain ⟨t, ht⟩ : ∃ t, t = z1.getD i 0 := ⟨_, rfl⟩
          rw [← hx] at r0
          rw [← ht] at r1
          have HX := Lib.hid hx; have HT := Lib.hid ht
          have HL1 := Lib.hid hl1; have HNN := Lib.hid hN
          clear hx ht hc0 hc1 hd1 hl1 hN w0 w1
          go_wp2_with fail
          go_region_held3 (fun W => W.cell? ⟨g0, o0 + i, none⟩ = some (.string x) ∧ W.cell? ⟨g1, o1 + i, none⟩ = some (.int .i64 t)) (first | exact ⟨r0, r1⟩ | assumption)
            (first
              | (go_at_call 18; refine (HCut.out _ _).mono ?_; rintro e y5 ⟨rfl, rfl⟩)
              | (go_at_call 19; refine (HP.out _ _ _ (D.below (Below.refl _ wr).drew)).mono ?_; rintro e y6 ⟨he, ⟨c6, D6⟩, b6⟩; change e = .returned (.int .i64 0) at he; subst he; have d6 := And.intro ((b6.cell (p := ⟨g0, o0 + i, none⟩) hg0).trans r0) ((b6.cell (p := ⟨g1, o1 + i, none⟩) hg1).trans r1)))
          go_wp2
          obtain ⟨c7, h7⟩ := set_last z0 z1 ck c6 i
          rw [HX.out, HT.out] at D6
          exact ⟨⟨i + 1, c7, by go_num, by omega, by rw [← h7]; exact D6, bR.drew.trans b6⟩, by simp [RowKit.intOf]; omega⟩
        · have hiN : i = N := by omega
          subst hiN
          obtain ⟨j, rfl⟩ : ∃ j, i = j + 1 := ⟨i - 1, by omega⟩
          obtain ⟨g0, o0, rfl, hg0, hc0⟩ := w0.2.2 p0
          obtain ⟨a1', cap1', e1, hcap, hc1⟩ := w1.2.1
          have hl1 := w1.1
          simp only [Value.slice.injEq] at e1
          obtain ⟨rfl, e2, e3⟩ := e1
          clear e2 e3
          obtain ⟨g1, o1, rfl, hd1⟩ := hc1 (by omega)
          have hg1 : g1 < w.heap.size := w1.2.2.2 (by omega) g1 rfl
          obtain ⟨x, hx⟩ : ∃ x, x = z0.getD j ByteArray.empty := ⟨_, rfl⟩
          obtain ⟨t, ht⟩ : ∃ t, t = z1.getD j 0 := ⟨_, rfl⟩
          have r0 : ∀ W, Below w.heap.size w W → W.cell? ⟨g0, o0 + j, none⟩ = some (.string x) := fun W b => by
            rw [hx]; exact (b.cell (p := ⟨g0, o0 + j, none⟩) hg0).trans (hc0 j (by omega))
          have r1 : ∀ W, Below w.heap.size w W → W.cell? ⟨g1, o1 + j, none⟩ = some (.int .i64 t) := fun W b => by
            rw [ht]; exact (b.cell (p := ⟨g1, o1 + j, none⟩) hg1).trans (hd1 j (by omega))
          have HR0 := Lib.hid r0; have HR1 := Lib.hid r1
          simp only [lastO] at D
          rw [← hx, ← ht] at D
          have q0 : j < len0 := by omega
          have q1 : j < len1 := by omega
          obtain ⟨q, hq⟩ : ∃ q, q = cutB x 60 := ⟨_, rfl⟩
          have HCq := fun W => HCut.out x W
          rw [← hq] at HCq D
          have HCQ := Lib.hid HCq
          have HL := Lib.hid (blist_go w.heap.size k f c m _ _ nO wr D hH (by simp) rfl)
          have HNN := Lib.hid hN
          first
            | (have hz : len1 = j + 1 := by rcases hN with h | h | h <;> omega
               clear hN HNN hl1
               subst hz)
            | (have hz : len0 = j + 1 := by rcases hN with h | h | h <;> omega
               clear hN HNN hl1
               subst hz)
            | (have hz : j = 9 := by rcases hN with h | h | h <;> omega
               clear hN HNN hl1
               subst hz)
          clear hx ht hc0 hc1 hd1 w0 w1 r0 r1 HCq hq
          go_wp2_with fail
          refine HL.out.mono ?_
          rintro e x4 ⟨v, ds, rfl, hp, hs, hsl, D4, b4⟩
          have hinf : infsO nO [⟨nO, q, t, ck⟩] = [⟨nO, q.size, t⟩] := by
            unfold infsO
            rw [List.filter_cons_of_pos (by simp [pre])]
            rfl
          rw [hinf, List.perm_singleton] at hp
          subst hp
          obtain ⟨g2, o2, c2, rfl, hb2, hg2, _, _, _, hc2⟩ : ∃ g off cap, v = .slice (some ⟨g, off, none⟩) 1 cap ∧ wr.heap.size ≤ g ∧ g < x4.heap.size ∧ 1 ≤ cap ∧ cap ≤ maxLen ∧
              (∀ j, j < cap * 3 → (x4.cell? ⟨g, off + j, none⟩).isSome = true ∧ x4.frozen? ⟨g, off + j, none⟩ = false) ∧ (∀ j, j < 1 * 3 → x4.cell? ⟨g, off + j, none⟩ = (infc [⟨nO, q.size, t⟩])[j]?) := by
            rcases hsl.2 with ⟨_, h0⟩ | h
            · simp at h0
            · exact h
          have s1 : x4.cell? ⟨g2, o2 + 1, none⟩ = some (.int .i64 q.size) := hc2 1 (by decide)
          have s2 : x4.cell? ⟨g2, o2 + 2, none⟩ = some (.int .i64 t) := hc2 2 (by decide)
          have hgn : ¬ Mb f c m g2 := by
            obtain ⟨c0, D0⟩ := D
            have h1 := D0.fuse.lts
            have h2 := D0.mlt
            rintro (e | e | e) <;> omega
          have hD4 := D4
          obtain ⟨c4, D4⟩ := D4
          have HGet := Lib.hid (get_any k f c m _ _ c4 nO x4 D4)
          clear hinf hs hsl hc2
          go_wp2_with fail
          refine HGet.out.mono ?_
          rintro e x5 ⟨he, n5⟩
          rw [getR_some (show lookO nO [⟨nO, q, t, ck⟩] = some ⟨nO, q, t, ck⟩ by simp [lookO])] at he
          change e = .returned (.tuple #[.string q, .int .i64 0]) at he
          subst he
          have bB : Below w.heap.size w x5 := (bR.trans b4).trans (n5.below D4 hH)
          have r0 := HR0.out x5 bB
          have r1 := HR1.out x5 bB
          have u1 := (n5.2.cell (p := ⟨g2, o2 + 1, none⟩) hg2 hgn).trans s1
          have u2 := (n5.2.cell (p := ⟨g2, o2 + 2, none⟩) hg2 hgn).trans s2
          have HQ := fun W => (HCQ.out W).mono (R' := fun e w' => e = .returned (.string q) ∧ ∃ n, w' = W.drewN n) (fun e w' ⟨h1, h2⟩ => ⟨h1, 0, by rw [← h2]; rfl⟩)
          clear s1 s2 hgn n5 hD4
          go_wp2_with fail
          go_quiet ((go_at_call 18; refine Calls.quiet_of (HQ _)))
          go_wp2
          go_ret
          exact ⟨rfl, below_draw bB _⟩
end Go.Proofs.Ytfjihookoilnnaa

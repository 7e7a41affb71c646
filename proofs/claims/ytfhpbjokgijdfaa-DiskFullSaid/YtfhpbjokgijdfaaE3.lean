/- DiskFull. -/
import Derived.Test.YtfhpbjokgijdfaaE2
namespace Go.Proofs.Ytfhpbjokgijdfaa
open Go.Conc Go.RowKit

abbrev nF : ByteArray := ⟨#[102]⟩
abbrev nG : ByteArray := ⟨#[103]⟩
theorem cut60 (s : ByteArray) (n : Nat) : (cutB s n).size ≤ n := by
  obtain ⟨l, h, hl⟩ := cut_list s n
  rw [h]
  simpa [bs, ByteArray.size] using hl
theorem all_one (k : ByteArray) (fs : List Fl) (hn : (fs.map (·.name)).Nodup) (h : ∀ x ∈ fs, x.name = k) : fs.length ≤ 1 := by
  match fs, hn, h with
  | [], _, _ => simp
  | [x], _, _ => simp
  | x :: y :: l, hn, h =>
    rw [List.map_cons, List.nodup_cons] at hn
    exact absurd (List.mem_map.2 ⟨y, by simp, by rw [h x (by simp), h y (by simp)]⟩) hn.1
theorem all_set (k : ByteArray) (v : Value) (data : List UInt8) (s b : Nat) (fs : List Fl) (hn : (fs.map (·.name)).Nodup) (h : ∀ x ∈ fs, x.name = k) : ∀ x ∈ setF k v data s b fs, x.name = k := fun x hx => by
  rcases set_mem k v data s b fs hn x hx with ⟨h1, _⟩ | ⟨_, _, _, h1⟩
  · exact h x h1
  · exact h1
theorem used_app (fs : List Fl) (k : ByteArray) (v : Value) (s : ByteArray) (n b : Nat) : usedF (setF k v (dataF k fs ++ s.data.toList) n b fs) = usedF fs + s.size := by
  have h := used_set k v (dataF k fs ++ s.data.toList) n b fs
  have h2 : (dataF k fs).length = lenF k fs := by unfold dataF lenF; cases lookF k fs <;> rfl
  have h3 : s.data.toList.length = s.size := Array.length_toList
  rw [List.length_append] at h
  omega
/-- A disk that has, if any, the one file f. -/
def Only (base d f c m : Nat) (room : Int) (A : List Ft) (u : Nat) (w : World) : Prop := ∃ fs clock, DiskAt base d f c m room fs A clock w ∧ (∀ x ∈ fs, x.name = nF) ∧ usedF fs = u
theorem only_append (B base d f c m : Nat) (room : Int) (u : Nat) (s : ByteArray) (w : World) (h : Only base d f c m room [] u w) (hB : Home B base d f c m) (hu : u ≤ 200) (hs : s.size ≤ 60) :
    Calls Try.prog 45 #[.pointer (some ⟨d, 0, none⟩), .string nF, .string s] w fun e w' => e = .returned (.int .i64 (if room - u < s.size then 7 else 0)) ∧ Only base d f c m room [] (if room - u < s.size then u else u + s.size) w' ∧ Below B w w' := by
  obtain ⟨fs, clock, D, hn, rfl⟩ := h
  by_cases hr : room - (usedF fs : Nat) < s.size
  · rw [if_pos hr, if_pos hr]
    refine (append_full base d f c m room fs [] clock nF s w D (by decide) hr).mono ?_
    rintro e w' ⟨rfl, n⟩
    refine ⟨rfl, ?_, n.below D hB⟩
    obtain ⟨⟨ck, D'⟩, _⟩ := n
    exact ⟨fs, ck, D', hn, rfl⟩
  · rw [if_neg hr, if_neg hr]
    refine (append_go base d f c m room fs [] clock nF s w D (by decide) hr (by omega)).mono ?_
    rintro e w' ⟨rfl, v, n⟩
    refine ⟨rfl, ?_, n.below D hB⟩
    obtain ⟨⟨ck, D'⟩, _⟩ := n
    exact ⟨_, ck, D', all_set nF _ _ _ _ fs D.files.names hn, used_app fs nF v s _ _⟩
theorem Only.below {base d f c m : Nat} {room : Int} {A : List Ft} {u : Nat} {w w' : World} (h : Only base d f c m room A u w) (b : Below w.heap.size w w') : Only base d f c m room A u w' := by
  obtain ⟨fs, clock, D, h⟩ := h
  exact ⟨fs, clock, D.below b, h⟩
theorem only_free (base d f c m : Nat) (room : Int) (A : List Ft) (u : Nat) (w : World) (h : Only base d f c m room A u w) :
    Calls Try.prog 50 #[.pointer (some ⟨d, 0, none⟩)] w fun e w' => e = .returned (.int .i64 (room - u)) ∧ ∃ n, w' = w.drewN n := by
  obtain ⟨fs, clock, D, _, rfl⟩ := h
  exact free_any base d f c m room fs A clock w D
theorem only_used (base d f c m : Nat) (room : Int) (A : List Ft) (u : Nat) (w : World) (h : Only base d f c m room A u w) :
    Calls Try.prog 51 #[.pointer (some ⟨d, 0, none⟩)] w fun e w' => e = .returned (.int .i64 u) ∧ w = w' := by
  obtain ⟨fs, clock, D, _, rfl⟩ := h
  exact used_any base d f c m room fs A clock w D

def s300 : ByteArray := ⟨(List.replicate 300 (0 : UInt8)).toArray⟩
theorem s300_size : s300.size = 300 := by
  show (List.replicate 300 (0 : UInt8)).toArray.size = 300
  rw [List.size_toArray, List.length_replicate]
theorem mk300 (W : World) : (Instr.makeSlice 23 (.int .i64 300) (.int .i64 300)).run Try.prog W = .ok (.slice (some ⟨W.heap.size, 0, none⟩) 300 300) (W.alloc (.cells (madeCells #[.int .u8 0] 300) 5)) := by
  obtain ⟨i0, hi, hz0, hz1, hz2⟩ := info_parts bi_u8
  have hr := run_make (P := Try.prog) W 23 5 i0 (.int .u8 0) Try.underlying23 hi hz0 .i64 .i64 300 300 (by decide) (by decide) (by rw [hz2]; decide) (by decide)
  rw [hz1] at hr
  exact hr
theorem conv300 (W : World) : (convert 23 9 (.slice (some ⟨W.heap.size, 0, none⟩) 300 300)).run Try.prog (W.alloc (.cells (madeCells #[.int .u8 0] 300) 5)) = .ok (.string s300) (W.alloc (.cells (madeCells #[.int .u8 0] 300) 5)) := by
  have hs := Sl.lit W 0 1 300 (madeCells #[.int .u8 0] 300) 5 (Nat.zero_le _) (by decide) (by decide +kernel)
  rw [show (madeCells #[.int .u8 0] 300).toList = cb (List.replicate 300 0) by kernel_rfl] at hs
  exact run_text_of_sl (P := Try.prog) _ 0 23 9 5 Try.underlying23 Try.underlying5 Try.underlying9 _ 300 _ hs

theorem no_g (fs : List Fl) (h : ∀ x ∈ fs, x.name = nF) : namesF nG fs = [] := by
  unfold namesF
  rw [List.filter_eq_nil_iff]
  intro y hy
  obtain ⟨x, hx, rfl⟩ := List.mem_map.1 hy
  rw [show nm x = [102] by unfold nm; rw [h x hx]]
  decide

/-- DiskFull's loop. -/
def Filling (base d f c m : Nat) (room : Nat) (w0 : World) (vi : Value) (wr : World) : Prop :=
  ∃ (i u : Nat), vi = .int .i64 i ∧ i ≤ 20 ∧ u ≤ room ∧ Only base d f c m room [] u wr ∧ Below w0.heap.size w0 wr

set_option maxHeartbeats 1000000 in
set_option maxRecDepth 100000 in
theorem dfull_any (a0 : Int) (a1 : Option Addr) (len1 cap1 : Nat) (z1 : List ByteArray) (w : World) (w0 : (Lit.int .i64 a0).wf = true) (w1 : StrsAt w a1 len1 z1) :
    Calls Try.prog 13 #[.int .i64 a0, .slice a1 len1 cap1] w fun e w' => e = .returned (.bool true) ∧ Below w.heap.size w w' := by
  have hb := bd_i64 w0
  have HAw := Lib.hid (fun W => dawake_any W)
  by_cases h1 : a0 < 0
  · go_enter Try.func13, Try.ntmps13
    go_wp2_with fail
    refine (HAw.out _).mono ?_
    rintro e x1 ⟨rfl, b1⟩
    go_wp2_with fail
    refine (HAw.out _).mono ?_
    rintro e x2 ⟨rfl, b2⟩
    go_wp2
    go_ret
    exact ⟨rfl, b1.trans (b2.mono b1.size)⟩
  · by_cases h2 : 200 < a0
    · have d1 : decide (a0 < 0) = false := by simp; omega
      go_enter Try.func13, Try.ntmps13
      go_wp2_with fail
      refine (HAw.out _).mono ?_
      rintro e x1 ⟨rfl, b1⟩
      go_wp2_with fail
      refine (HAw.out _).mono ?_
      rintro e x2 ⟨rfl, b2⟩
      go_wp2
      go_ret
      exact ⟨rfl, b1.trans (b2.mono b1.size)⟩
    · obtain ⟨R, rfl⟩ := Int.eq_ofNat_of_zero_le (show 0 ≤ a0 by omega)
      have hR : R ≤ 200 := by omega
      have d1 : decide ((R : Int) < 0) = false := by simp
      have d2 : decide ((200 : Int) < (R : Int)) = false := by simp; omega
      have HNew := Lib.hid (fun W => new_home (R : Int) W (by omega) (by omega))
      rw [show max (R : Int) 0 = (R : Int) by omega] at HNew
      obtain ⟨hzl, hzm, hza⟩ := w1
      clear hb h1 h2 w0
      go_enter Try.func13, Try.ntmps13
      go_wp2_with fail
      refine (HAw.out _).mono ?_
      rintro e x1 ⟨rfl, b1⟩
      go_wp2_with fail
      refine (HNew.out _).mono ?_
      rintro e x2 ⟨base, d, f, c, m, rfl, D1, hH, b2⟩
      have hH' : Home w.heap.size base d f c m := ⟨by have := hH.b; have := b1.size; omega, by have := hH.d; have := b1.size; omega, by have := hH.f; have := b1.size; omega, by have := hH.c; have := b1.size; omega, by have := hH.m; have := b1.size; omega⟩
      have O1 : Only base d f c m R [] 0 x2 := ⟨[], 0, D1, by simp, rfl⟩
      have bA : Below w.heap.size w x2 := b1.trans (b2.mono b1.size)
      clear D1 hH d1 d2 b1 b2
      go_wp2_with fail
      go_loopw [6] (fun vi wr => Filling base d f c m R w vi wr) (fun vi _ => 20 - (RowKit.intOf vi).toNat)
      case atStart => exact ⟨0, 0, rfl, by omega, by omega, O1, bA⟩
      case round =>
        obtain ⟨i, u, rfl, hi, hu, O, bR⟩ := hrel
        by_cases hlt : i < len1 ∧ i < 20
        · obtain ⟨h3, h4⟩ := hlt
          obtain ⟨g, off, rfl, hg, hcell⟩ := hza (by omega)
          have hc := (bR.cell (p := ⟨g, off + i, none⟩) hg).trans (hcell i h3)
          obtain ⟨s0, hs0⟩ : ∃ s0, s0 = z1.getD i ByteArray.empty := ⟨_, rfl⟩
          rw [← hs0] at hc
          obtain ⟨s, hs⟩ : ∃ s, s = cutB s0 60 := ⟨_, rfl⟩
          have hs60 : s.size ≤ 60 := by rw [hs]; exact cut60 s0 60
          have K := fun W => cut_any s0 60 W (by decide)
          rw [show (60 : Int).toNat = 60 from rfl, ← hs] at K
          have HK := Lib.hid K
          obtain ⟨F, hF⟩ : ∃ F, F = (R : Int) - u := ⟨_, rfl⟩
          have HFr := Lib.hid (only_free base d f c m R [] u wr O)
          have HAp := Lib.hid (fun (n : Nat) => only_append w.heap.size base d f c m R u s (wr.drewN n) (O.below (below_draw (Below.refl _ wr) n)) hH' (by omega) hs60)
          rw [← hF] at HFr HAp
          have hF0 : 0 ≤ F := by omega
          have hF1 : F ≤ 200 := by omega
          have HF := Lib.hid hF
          have i4 : (i : Int) < 20 := by omega
          clear hF hs hs0 hza hcell K hzm
          by_cases hr : F < (s.size : Int)
          · rw [if_pos hr, if_pos hr] at HAp
            have q1 : decide ((s.size : Int) ≤ F) = false := by simp; omega
            have q2 : decide ((R : Int) < (u : Int)) = false := by simp; omega
            go_wp2_with fail
            refine (HK.out _).mono ?_
            rintro e x3 ⟨rfl, rfl⟩
            go_wp2_with fail
            refine HFr.out.mono ?_
            rintro e x3 ⟨rfl, n, rfl⟩
            go_wp2_with fail
            refine (HAp.out n).mono ?_
            rintro e x4 ⟨rfl, O4, b4⟩
            have HU := Lib.hid (only_used base d f c m R [] _ x4 O4)
            go_wp2_with fail
            refine HU.out.mono ?_
            rintro e x5 ⟨rfl, rfl⟩
            go_wp2
            exact ⟨⟨i + 1, u, by go_num, by omega, hu, O4, (below_draw bR n).trans b4⟩, by simp [RowKit.intOf]; omega⟩
          · rw [if_neg hr, if_neg hr] at HAp
            have q1 : (s.size : Int) ≤ F := by omega
            have q3 : u + s.size ≤ R := by have := HF.out; omega
            have q2 : decide ((R : Int) < ((u + s.size : Nat) : Int)) = false := by simp; omega
            obtain ⟨u', hu'⟩ : ∃ u', u' = u + s.size := ⟨_, rfl⟩
            rw [← hu'] at HAp q2 q3
            clear hu'
            go_wp2_with fail
            refine (HK.out _).mono ?_
            rintro e x3 ⟨rfl, rfl⟩
            go_wp2_with fail
            refine HFr.out.mono ?_
            rintro e x3 ⟨rfl, n, rfl⟩
            go_wp2_with fail
            refine (HAp.out n).mono ?_
            rintro e x4 ⟨rfl, O4, b4⟩
            have HU := Lib.hid (only_used base d f c m R [] _ x4 O4)
            go_wp2_with fail
            refine HU.out.mono ?_
            rintro e x5 ⟨rfl, rfl⟩
            go_wp2
            exact ⟨⟨i + 1, u', by go_num, by omega, q3, O4, (below_draw bR n).trans b4⟩, by simp [RowKit.intOf]; omega⟩
        · clear hza
          obtain ⟨fs, clock, D, hn, hu'⟩ := O
          have e0 := D.c0
          have HArm := Lib.hid (arm_empty f c 0 false wr D.fuse (by unfold Ft.Fits; decide))
          have hmk := mk300
          by_cases h3 : i < len1
          all_goals
            first
              | (have i20 : i = 20 := by omega
                 subst i20)
              | skip
            go_wp2_with fail
            refine HArm.out.mono ?_
            rintro e x3 ⟨rfl, hA, t3⟩
            have D3 := D.tried t3 hA
            have N3 : Now base d f c m R fs fs _ wr x3 := Now.tried D (Below.refl _ wr) t3 hA
            have b3 := bR.trans (N3.below D hH')
            have hcv := conv300 x3
            go_wp2_with fail
            obtain ⟨x4, hx4⟩ : ∃ x4, x4 = x3.alloc (.cells (madeCells #[.int .u8 0] 300) 5) := ⟨_, rfl⟩
            have b34 : Below x3.heap.size x3 x4 := by rw [hx4]; exact (Below.refl _ x3).alloc (Nat.le_refl _) _
            rw [← hx4]
            have D4 := D3.below b34
            have b4 := b3.trans (b34.mono b3.size)
            have h300 := s300_size
            have HX := Lib.hid hx4
            have C5 := Lib.hid (append_full base d f c m R fs _ clock nG s300 x4 D4 (by decide) (by rw [h300]; omega))
            clear hx4 hmk hcv
            go_wp2_with fail
            refine C5.out.mono ?_
            rintro e x5 ⟨rfl, N5⟩
            have b5 := b4.trans (N5.below D4 hH')
            obtain ⟨ck5, D5⟩ := N5.1
            have C6 := Lib.hid (append_go base d f c m R fs _ ck5 nG ⟨#[]⟩ x5 D5 (by decide) (by show ¬ ((R : Int) - usedF fs < ((0 : Nat) : Int)); omega) (by show usedF fs + 0 ≤ 1000000; omega))
            go_wp2_with fail
            refine C6.out.mono ?_
            rintro e x6 ⟨he, _, N6⟩
            rw [show (if (tryL [(max 0 0, false)]).1.1 = true then (0 : Int) else 8) = 8 from rfl] at he
            subst he
            have b6 := b5.trans (N6.below D5 hH')
            obtain ⟨ck6, D6⟩ := N6.1
            rw [if_neg (show ¬ (tryL [(max 0 0, false)]).1.2 = true by decide)] at D6
            have hone := all_one nF fs D.files.names hn
            have C7 := Lib.hid (list_any base d f c m R fs _ ck6 nG x6 D6 (by omega))
            go_wp2_with fail
            refine C7.out.mono ?_
            rintro e x7 ⟨v7, rfl, hs7, b7⟩
            rw [no_g fs hn] at hs7
            obtain ⟨a7, cap7, rfl⟩ := hs7.slice
            simp only [List.length_nil]
            clear hs7
            go_wp2
            go_ret
            exact ⟨rfl, b6.trans (b7.mono b6.size)⟩
end Go.Proofs.Ytfhpbjokgijdfaa

/- The document's disk: set. The document's disk: Used, good. The document's disk: the two boxes of a call that tries. -/
import Derived.Test.YtnjoojffefhgpaaMJ1
namespace Go.Proofs.Ytnjoojffefhgpaa
open Go.Conc Go.RowKit
set_option linter.unusedVariables false

theorem field_DL (a b : Option Addr) (n c m d : Nat) (rm : Int) (w : World) : (Instr.field 30 (.agg #[.slice a n c, .int .i64 rm, .slice b m d]) 0).run Try.prog w = .ok (.slice a n c) w := by kernel_rfl

set_option maxHeartbeats 2000000 in
set_option maxRecDepth 100000 in
theorem rset_any (base : Nat) (v : Value) (rm : Int) (u : Value) (xs : List Rj) (x : Rj) (w : World) (hs : Sl w base 3 v xs.length (rjc xs)) (hlen : xs.length ≤ 900) (hu : ∃ a n c, u = .slice a n c) :
    Calls Try.prog 61 #[rdv v rm u, .agg #[.string x.name, .string x.data, .int .i64 x.tm]] w fun e w' => ∃ v', e = .returned (rdv v' rm u) ∧ Sl w' w.heap.size 3 v' (withR x xs).length (rjc (withR x xs)) ∧ Below w.heap.size w w' := by
  obtain ⟨i0, hi, hz0, hz1, hz2⟩ := info_parts zc_file
  have Hz := Lib.hid hz0; have Hs := Lib.hid hz1; have Hb := Lib.hid hz2; have Hi := Lib.hid hi
  clear hz0 hz1 hz2 hi
  have WO := Lib.hid (fun W (b : Below w.heap.size w W) => rdrop_any base v rm u xs x.name W (hs.on b) (by omega) hu)
  obtain ⟨ys, hys⟩ : ∃ ys, ys = outR x.name xs := ⟨_, rfl⟩
  have hyl : ys.length ≤ 900 := by rw [hys]; exact Nat.le_trans (outR_le _ _) hlen
  rw [← hys] at WO
  have HYS := Lib.hid (show withR x xs = insL x ys by rw [hys]; rfl)
  obtain ⟨ua, un, uc, rfl⟩ := hu
  obtain ⟨a, cap, rfl⟩ := hs.slice
  obtain ⟨n0, hn0⟩ : ∃ n, n = xs.length := ⟨_, rfl⟩
  rw [← hn0] at WO hs ⊢
  obtain ⟨W3, hW3⟩ : ∃ W3, W3 = ((w.alloc (.cells #[.slice a n0 cap, .int .i64 rm, .slice ua un uc] 30)).alloc (.cells #[.string x.name, .string x.data, .int .i64 x.tm] 85)).alloc (.cells #[.slice none 0 0, .int .i64 0, .slice none 0 0] 30) := ⟨_, rfl⟩
  have s1 : (w.alloc (.cells #[.slice a n0 cap, .int .i64 rm, .slice ua un uc] 30)).heap.size = w.heap.size + 1 := by simp
  have s2 : ((w.alloc (.cells #[.slice a n0 cap, .int .i64 rm, .slice ua un uc] 30)).alloc (.cells #[.string x.name, .string x.data, .int .i64 x.tm] 85)).heap.size = w.heap.size + 1 + 1 := by simp
  have z3 : W3.heap.size = w.heap.size + 3 := by rw [hW3]; simp
  have g0 : W3.heap[w.heap.size]? = some (.cells #[.slice a n0 cap, .int .i64 rm, .slice ua un uc] 30) := by
    rw [hW3, Below.heap_alloc _ _ _ (by omega), Below.heap_alloc _ _ _ (by omega)]; exact heap_alloc_new w _
  have g1 : W3.heap[w.heap.size + 1]? = some (.cells #[.string x.name, .string x.data, .int .i64 x.tm] 85) := by
    have := heap_alloc_new (w.alloc (.cells #[.slice a n0 cap, .int .i64 rm, .slice ua un uc] 30)) (.cells #[.string x.name, .string x.data, .int .i64 x.tm] 85)
    rw [s1] at this
    rw [hW3, Below.heap_alloc _ _ _ (by omega)]; exact this
  have g2 : W3.heap[w.heap.size + 1 + 1]? = some (.cells #[.slice none 0 0, .int .i64 0, .slice none 0 0] 30) := by
    have := heap_alloc_new ((w.alloc (.cells #[.slice a n0 cap, .int .i64 rm, .slice ua un uc] 30)).alloc (.cells #[.string x.name, .string x.data, .int .i64 x.tm] 85)) (.cells #[.slice none 0 0, .int .i64 0, .slice none 0 0] 30)
    rw [s2] at this
    rw [hW3]; exact this
  have bW3 : Below w.heap.size w W3 := by rw [hW3]; exact (((Below.refl _ _).alloc (Nat.le_refl _) _).alloc (by omega) _).alloc (by omega) _
  have D0 := Lib.hid (show (W3.cell? ⟨w.heap.size, 0, none⟩ = some (.slice a n0 cap) ∧ W3.cell? ⟨w.heap.size, 1, none⟩ = some (.int .i64 rm) ∧ W3.cell? ⟨w.heap.size, 2, none⟩ = some (.slice ua un uc)) ∧ W3.cell? ⟨w.heap.size + 1 + 1, 0, none⟩ = some (.slice none 0 0) ∧ W3.cell? ⟨w.heap.size + 1 + 1, 1, none⟩ = some (.int .i64 0) ∧ W3.cell? ⟨w.heap.size + 1 + 1, 2, none⟩ = some (.slice none 0 0) from ⟨⟨(cell_of_row _ _ 0 _ _ _ g0).trans rfl, (cell_of_row _ _ 1 _ _ _ g0).trans rfl, (cell_of_row _ _ 2 _ _ _ g0).trans rfl⟩, (cell_of_row _ _ 0 _ _ _ g2).trans rfl, (cell_of_row _ _ 1 _ _ _ g2).trans rfl, (cell_of_row _ _ 2 _ _ _ g2).trans rfl⟩)
  have D1 := Lib.hid (show W3.cell? ⟨w.heap.size + 1, 0, none⟩ = some (.string x.name) ∧ W3.cell? ⟨w.heap.size + 1, 1, none⟩ = some (.string x.data) ∧ W3.cell? ⟨w.heap.size + 1, 2, none⟩ = some (.int .i64 x.tm) from ⟨(cell_of_row _ _ 0 _ _ _ g1).trans rfl, (cell_of_row _ _ 1 _ _ _ g1).trans rfl, (cell_of_row _ _ 2 _ _ _ g1).trans rfl⟩)
  have FR := Lib.hid (show ∀ o, W3.frozen? ⟨w.heap.size, o, none⟩ = false ∧ W3.frozen? ⟨w.heap.size + 1 + 1, o, none⟩ = false from fun o => ⟨by simp only [World.frozen?, g0]; rfl, by simp only [World.frozen?, g2]; rfl⟩)
  have G0 := Lib.hid g0; have G1 := Lib.hid g1; have G2 := Lib.hid g2; have Z3 := Lib.hid z3; have BW3 := Lib.hid bW3; have HW3 := Lib.hid hW3
  have SO := Lib.hid (show Sl (W3.alloc (.cells #[] 85)) W3.heap.size 3 (.slice (some ⟨W3.heap.size, 0, none⟩) 0 0) 0 (rjc []) from Sl.lit W3 W3.heap.size 3 0 #[] _ (Nat.le_refl _) (by decide) rfl)
  have W1 := Lib.hid (WO.out (W3.alloc (.cells #[] 85)) (bW3.alloc (by omega) _))
  clear hn0 s1 s2 z3 g0 g1 g2 bW3 hW3 hs WO hys
  unfold rdv
  go_enter Try.func61, Try.ntmps61
  go_wp2_with fail
  rw [← HW3.out]
  refine W1.out.mono ?_
  rintro e V2 ⟨v', rfl, s4, b4⟩
  obtain ⟨m, hm⟩ : ∃ m, m = ys.length := ⟨_, rfl⟩
  rw [← hm] at s4 hyl
  obtain ⟨a', cap', rfl⟩ := s4.slice
  have hm4 : (W3.alloc (Obj.cells #[] 85)).heap.size = W3.heap.size + 1 := by simp
  have WI := Lib.hid (show Wi W3.heap.size W3 V2 (.slice (some ⟨W3.heap.size, 0, none⟩) 0 0) (foldW x (ys.take 0)).2.length (rjc (foldW x (ys.take 0)).2) (.slice a' m cap') m (rjc ys) from
    ⟨SO.out.on b4, s4.mono (by omega), fun k hk hv => by
      have h1 := (s4.lt k hv).1
      have h2 : k = W3.heap.size := (Option.some.inj hk).symm
      omega, ((Below.refl _ _).alloc (Nat.le_refl _) _).trans (b4.mono (by omega)), by have := b4.size; omega⟩)
  have HM := Lib.hid hm
  clear hm s4 b4 W1 SO hm4
  unfold rdv
  have hFL := field_DL a' ua m cap' un uc rm V2
  go_wp2_with fail
  rw [show w.heap.size + 1 + 1 + 1 = W3.heap.size by have := Z3.out; omega]
  clear hFL
  go_loopw [5, 6, 16] (fun vo vd vi wr => ∃ i : Nat, vi = .int .i64 i ∧ i ≤ m ∧ vd = .bool (foldW x (ys.take i)).1 ∧ Wi W3.heap.size W3 wr vo (foldW x (ys.take i)).2.length (rjc (foldW x (ys.take i)).2) (.slice a' m cap') m (rjc ys)) (fun _ _ vi _ => m - (RowKit.intOf vi).toNat)
  case atStart => exact ⟨0, rfl, by omega, rfl, WI.out⟩
  case round =>
    obtain ⟨i, rfl, hi, rfl, hwi⟩ := hrel
    have hll := foldW_len x (ys.take i)
    obtain ⟨d, hd⟩ : ∃ d, d = (foldW x (ys.take i)).1 := ⟨_, rfl⟩
    obtain ⟨L, hL⟩ : ∃ L, L = (foldW x (ys.take i)).2 := ⟨_, rfl⟩
    rw [← hL] at hll hwi
    rw [← hd]
    have hlt : (ys.take i).length ≤ i := by rw [List.length_take]; exact Nat.min_le_left _ _
    have hLl := Lib.hid (show L.length ≤ i + 1 by omega)
    have HF := Lib.hid (show foldW x (ys.take i) = (d, L) by rw [hd, hL])
    have hi900 := Lib.hid (show i + 1 ≤ 902 by omega)
    clear hll hlt hd hL
    by_cases him : i < m
    · obtain ⟨o, ho⟩ : ∃ o, ys[i]? = some o := ⟨ys[i]'(by have := HM.out; omega), List.getElem?_eq_getElem (by have := HM.out; omega)⟩
      have hst := insL_take x ys i o ho
      rw [HF.out] at hst
      have HST := Lib.hid hst
      obtain ⟨v0, v1, v2⟩ := rjc_at ys i o ho
      obtain ⟨gl, ol, cl, ea, _, _, _⟩ := hwi.src.somewhere (by omega)
      cases ea
      have hcl := hwi.src.cells
      have q0 := hcl (i * 3) _ v0
      rw [Addr.add_lit] at q0
      have q1 := hcl (i * 3 + 1) _ v1
      rw [Addr.add_lit] at q1
      have q2 := hcl (i * 3 + 2) _ v2
      rw [Addr.add_lit] at q2
      rw [← Nat.add_assoc] at q1 q2
      have p0 := (hwi.below.cell (p := ⟨w.heap.size + 1, 0, none⟩) (by simp only; have := Z3.out; omega)).trans D1.out.1
      have p1 := (hwi.below.cell (p := ⟨w.heap.size + 1, 1, none⟩) (by simp only; have := Z3.out; omega)).trans D1.out.2.1
      have p2 := (hwi.below.cell (p := ⟨w.heap.size + 1, 2, none⟩) (by simp only; have := Z3.out; omega)).trans D1.out.2.2
      have r1 : w.heap.size + 1 < wr.heap.size := by have := Z3.out; have := hwi.size; omega
      have him' : (i : Int) < m := by omega
      clear hcl v0 v1 v2 hst ho hi
      by_cases hdo : d = true
      · subst hdo
        have e1 : foldW x (ys.take (i + 1)) = (true, L ++ [o]) := by rw [HST.out]; simp [stepW]
        have hnn := nums L.length (Nat.le_trans hLl.out hi900.out)
        obtain ⟨va, vc, rfl⟩ := hwi.out.slice
        have n1 := hnn.1
        have n2 := hnn.2.1
        have hwz := hwi.size
        have n3 : W3.heap.size ≤ ((wr.alloc (Obj.cells #[.string o.name, .string o.data, .int .i64 o.tm] 85)).alloc (Obj.cells #[.string o.name, .string o.data, .int .i64 o.tm] 85)).heap.size := by simp only [World.size_alloc]; omega
        have hown1 : Sl ((wr.alloc (Obj.cells #[.string o.name, .string o.data, .int .i64 o.tm] 85)).alloc (Obj.cells #[.string o.name, .string o.data, .int .i64 o.tm] 85)) W3.heap.size 3 (.slice va L.length vc) L.length (rjc L) := (hwi.out.alloc _).alloc _
        have hlit1 : Sl ((wr.alloc (Obj.cells #[.string o.name, .string o.data, .int .i64 o.tm] 85)).alloc (Obj.cells #[.string o.name, .string o.data, .int .i64 o.tm] 85)) W3.heap.size 3 (.slice (some ⟨wr.heap.size + 1, 0, none⟩) 1 1) 1 [.string o.name, .string o.data, .int .i64 o.tm] := by
          have := (Sl.lit (wr.alloc (Obj.cells #[.string o.name, .string o.data, .int .i64 o.tm] 85)) W3.heap.size 3 1 #[.string o.name, .string o.data, .int .i64 o.tm] 85 (by (try simp only [World.size_alloc]); omega) (by decide) rfl)
          rw [show (wr.alloc (Obj.cells #[.string o.name, .string o.data, .int .i64 o.tm] 85)).heap.size = wr.heap.size + 1 by simp] at this
          exact this
        go_wp2_with (at_builtin; refine wpList_append_sl2 _ rfl _ _ 25 rfl W3.heap.size 85 i0 (.agg #[.string ByteArray.empty, .string ByteArray.empty, .int .i64 0]) 3 40 Try.underlying25 Hi.out Hz.out Hs.out Hb.out rfl (by decide) _ L.length _ rfl hown1 W3.heap.size _ 1 [.string o.name, .string o.data, .int .i64 o.tm] rfl hlit1 (rjc_one o) n1 n2 n3 ?_; intro v5 w5 hx5; have HX5 := Lib.hid hx5; clear hx5)
        have W5 := ((hwi.alloc (Obj.cells #[.string o.name, .string o.data, .int .i64 o.tm] 85)).alloc (Obj.cells #[.string o.name, .string o.data, .int .i64 o.tm] 85)).ext HX5.out
        refine ⟨⟨i + 1, by go_num, by omega, by rw [e1], ?_⟩, by simp [RowKit.intOf]; omega⟩
        rw [e1]
        dsimp only
        rw [List.length_append, rjc_append]
        exact W5
      · obtain rfl : d = false := by simpa using hdo
        clear hdo
        by_cases hlt : bl x.name < bl o.name
        · have hb := bgt_true hlt
          have e1 : foldW x (ys.take (i + 1)) = (true, L ++ [x, o]) := by rw [HST.out]; simp [stepW, hlt]
          clear hlt
          have hnn := nums L.length (Nat.le_trans hLl.out hi900.out)
          obtain ⟨va, vc, rfl⟩ := hwi.out.slice
          have n1 := hnn.1
          have n2 := hnn.2.1
          have n1' := hnn.2.2.1
          have n2' := hnn.2.2.2
          have hwz := hwi.size
          have n3 : W3.heap.size ≤ ((wr.alloc (Obj.cells #[.string o.name, .string o.data, .int .i64 o.tm] 85)).alloc (Obj.cells #[.string x.name, .string x.data, .int .i64 x.tm] 85)).heap.size := by simp only [World.size_alloc]; omega
          have hown1 : Sl ((wr.alloc (Obj.cells #[.string o.name, .string o.data, .int .i64 o.tm] 85)).alloc (Obj.cells #[.string x.name, .string x.data, .int .i64 x.tm] 85)) W3.heap.size 3 (.slice va L.length vc) L.length (rjc L) := (hwi.out.alloc _).alloc _
          have hlit1 : Sl ((wr.alloc (Obj.cells #[.string o.name, .string o.data, .int .i64 o.tm] 85)).alloc (Obj.cells #[.string x.name, .string x.data, .int .i64 x.tm] 85)) W3.heap.size 3 (.slice (some ⟨wr.heap.size + 1, 0, none⟩) 1 1) 1 [.string x.name, .string x.data, .int .i64 x.tm] := by
            have := (Sl.lit (wr.alloc (Obj.cells #[.string o.name, .string o.data, .int .i64 o.tm] 85)) W3.heap.size 3 1 #[.string x.name, .string x.data, .int .i64 x.tm] 85 (by (try simp only [World.size_alloc]); omega) (by decide) rfl)
            rw [show (wr.alloc (Obj.cells #[.string o.name, .string o.data, .int .i64 o.tm] 85)).heap.size = wr.heap.size + 1 by simp] at this
            exact this
          have hone := rjc_one x
          have hone' := rjc_one o
          go_wp2_with (at_builtin; first
            | (refine wpList_append_sl2 _ rfl _ _ 25 rfl W3.heap.size 85 i0 (.agg #[.string ByteArray.empty, .string ByteArray.empty, .int .i64 0]) 3 40 Try.underlying25 Hi.out Hz.out Hs.out Hb.out rfl (by decide) _ L.length _ rfl hown1 W3.heap.size _ 1 [.string x.name, .string x.data, .int .i64 x.tm] rfl hlit1 hone n1 n2 n3 ?_; intro v5 w5 hx5; have W5 := ((hwi.alloc (Obj.cells #[.string o.name, .string o.data, .int .i64 o.tm] 85)).alloc (Obj.cells #[.string x.name, .string x.data, .int .i64 x.tm] 85)).ext hx5; have hbox : w5.heap[wr.heap.size]? = some (Obj.cells #[.string o.name, .string o.data, .int .i64 o.tm] 85) := wi_box hwi hx5; have t0 := (cell_of_row _ _ 0 _ _ _ hbox).trans rfl; have t1 := (cell_of_row _ _ 1 _ _ _ hbox).trans rfl; have t2 := (cell_of_row _ _ 2 _ _ _ hbox).trans rfl; clear hbox hx5; obtain ⟨va5, vc5, rfl⟩ := W5.out.slice; have hown2 := W5.out.alloc (Obj.cells #[.string o.name, .string o.data, .int .i64 o.tm] 85); have hw5 := W5.size; have hlit2 := (Sl.lit w5 W3.heap.size 3 1 #[.string o.name, .string o.data, .int .i64 o.tm] 85 (by (try simp only [World.size_alloc]); omega) (by decide) rfl); have n3' : W3.heap.size ≤ (w5.alloc (Obj.cells #[.string o.name, .string o.data, .int .i64 o.tm] 85)).heap.size := (by simp only [World.size_alloc]; omega); have HW5 := Lib.hid W5; clear W5)
            | (refine wpList_append_sl2 _ rfl _ _ 25 rfl W3.heap.size 85 i0 (.agg #[.string ByteArray.empty, .string ByteArray.empty, .int .i64 0]) 3 40 Try.underlying25 Hi.out Hz.out Hs.out Hb.out rfl (by decide) _ (L.length + 1) _ rfl hown2 W3.heap.size _ 1 [.string o.name, .string o.data, .int .i64 o.tm] rfl hlit2 hone' n1' n2' n3' ?_; intro v6 w6 hx6; have HX6 := Lib.hid hx6; clear hx6))
          have W6 := (HW5.out.alloc (Obj.cells #[.string o.name, .string o.data, .int .i64 o.tm] 85)).ext HX6.out
          refine ⟨⟨i + 1, by go_num, by omega, by rw [e1], ?_⟩, by simp [RowKit.intOf]; omega⟩
          rw [e1]
          dsimp only
          rw [show (L ++ [x, o]).length = L.length + 1 + 1 by simp, show rjc (L ++ [x, o]) = rjc L ++ encRj x ++ encRj o by simp [rjc]]
          exact W6
        · have hb := bgt_false hlt
          have e1 : foldW x (ys.take (i + 1)) = (false, L ++ [o]) := by rw [HST.out]; simp [stepW, hlt]
          clear hlt
          have hnn := nums L.length (Nat.le_trans hLl.out hi900.out)
          obtain ⟨va, vc, rfl⟩ := hwi.out.slice
          have n1 := hnn.1
          have n2 := hnn.2.1
          have hwz := hwi.size
          have n3 : W3.heap.size ≤ ((wr.alloc (Obj.cells #[.string o.name, .string o.data, .int .i64 o.tm] 85)).alloc (Obj.cells #[.string o.name, .string o.data, .int .i64 o.tm] 85)).heap.size := by simp only [World.size_alloc]; omega
          have hown1 : Sl ((wr.alloc (Obj.cells #[.string o.name, .string o.data, .int .i64 o.tm] 85)).alloc (Obj.cells #[.string o.name, .string o.data, .int .i64 o.tm] 85)) W3.heap.size 3 (.slice va L.length vc) L.length (rjc L) := (hwi.out.alloc _).alloc _
          have hlit1 : Sl ((wr.alloc (Obj.cells #[.string o.name, .string o.data, .int .i64 o.tm] 85)).alloc (Obj.cells #[.string o.name, .string o.data, .int .i64 o.tm] 85)) W3.heap.size 3 (.slice (some ⟨wr.heap.size + 1, 0, none⟩) 1 1) 1 [.string o.name, .string o.data, .int .i64 o.tm] := by
            have := (Sl.lit (wr.alloc (Obj.cells #[.string o.name, .string o.data, .int .i64 o.tm] 85)) W3.heap.size 3 1 #[.string o.name, .string o.data, .int .i64 o.tm] 85 (by (try simp only [World.size_alloc]); omega) (by decide) rfl)
            rw [show (wr.alloc (Obj.cells #[.string o.name, .string o.data, .int .i64 o.tm] 85)).heap.size = wr.heap.size + 1 by simp] at this
            exact this
          go_wp2_with (at_builtin; refine wpList_append_sl2 _ rfl _ _ 25 rfl W3.heap.size 85 i0 (.agg #[.string ByteArray.empty, .string ByteArray.empty, .int .i64 0]) 3 40 Try.underlying25 Hi.out Hz.out Hs.out Hb.out rfl (by decide) _ L.length _ rfl hown1 W3.heap.size _ 1 [.string o.name, .string o.data, .int .i64 o.tm] rfl hlit1 (rjc_one o) n1 n2 n3 ?_; intro v5 w5 hx5; have HX5 := Lib.hid hx5; clear hx5)
          have W5 := ((hwi.alloc (Obj.cells #[.string o.name, .string o.data, .int .i64 o.tm] 85)).alloc (Obj.cells #[.string o.name, .string o.data, .int .i64 o.tm] 85)).ext HX5.out
          refine ⟨⟨i + 1, by go_num, by omega, by rw [e1], ?_⟩, by simp [RowKit.intOf]; omega⟩
          rw [e1]
          dsimp only
          rw [List.length_append, rjc_append]
          exact W5
    · have him' : ¬ (i : Int) < m := by omega
      obtain rfl : i = m := by omega
      have e8 := foldW_is x ys
      rw [show ys.take i = ys from List.take_of_length_le (by have := HM.out; omega)] at HF
      rw [HF.out] at e8
      dsimp only at e8
      obtain ⟨va, vc, rfl⟩ := hwi.out.slice
      have hso := hwi.out
      by_cases hdo : d = true
      · subst hdo
        have e9 := e8.symm
        rw [if_pos rfl] at e9
        have bz := hwi.below
        have zz := Z3.out
        have k0 := (bz.cell (p := ⟨w.heap.size, 0, none⟩) (by simp only; omega)).trans D0.out.1.1
        have k1m := (bz.cell (p := ⟨w.heap.size, 1, none⟩) (by simp only; omega)).trans D0.out.1.2.1
        have k1 := (bz.cell (p := ⟨w.heap.size, 2, none⟩) (by simp only; omega)).trans D0.out.1.2.2
        have k2 := (bz.cell (p := ⟨w.heap.size + 1 + 1, 0, none⟩) (by simp only; omega)).trans D0.out.2.1
        have k3m := (bz.cell (p := ⟨w.heap.size + 1 + 1, 1, none⟩) (by simp only; omega)).trans D0.out.2.2.1
        have k3 := (bz.cell (p := ⟨w.heap.size + 1 + 1, 2, none⟩) (by simp only; omega)).trans D0.out.2.2.2
        have f0 := (bz.frozen (p := ⟨w.heap.size, 0, none⟩) (by simp only; omega)).trans (FR.out 0).1
        have f2 := (bz.frozen (p := ⟨w.heap.size + 1 + 1, 0, none⟩) (by simp only; omega)).trans (FR.out 0).2
        have f3m := (bz.frozen (p := ⟨w.heap.size + 1 + 1, 1, none⟩) (by simp only; omega)).trans (FR.out 1).2
        have f3 := (bz.frozen (p := ⟨w.heap.size + 1 + 1, 2, none⟩) (by simp only; omega)).trans (FR.out 2).2
        clear e8 zz
        go_wp2_with fail
        have z3 := Z3.out
        obtain ⟨W6, hW6⟩ : ∃ W6, W6 = (((wr.setCell ⟨w.heap.size, 0, none⟩ (.slice va L.length vc)).setCell ⟨w.heap.size + 1 + 1, 0, none⟩ (.slice va L.length vc)).setCell ⟨w.heap.size + 1 + 1, 1, none⟩ (.int .i64 rm)).setCell ⟨w.heap.size + 1 + 1, 2, none⟩ (.slice ua un uc) := ⟨_, rfl⟩
        have hne : w.heap.size + 1 + 1 ≠ w.heap.size := by omega
        have c0 : W6.cell? ⟨w.heap.size + 1 + 1, 0, none⟩ = some (.slice va L.length vc) := by
          rw [hW6, cell_setCell_other _ _ _ _ _ (.inr (by simp)), cell_setCell_other _ _ _ _ _ (.inr (by simp))]
          exact cell_setCell_same _ _ _ _ (by rw [cell_setCell_other _ _ _ _ _ (.inl hne), k2]; rfl)
        have c1 : W6.cell? ⟨w.heap.size + 1 + 1, 1, none⟩ = some (.int .i64 rm) := by
          rw [hW6, cell_setCell_other _ _ _ _ _ (.inr (by simp))]
          exact cell_setCell_same _ _ _ _ (by rw [cell_setCell_other _ _ _ _ _ (.inr (by simp)), cell_setCell_other _ _ _ _ _ (.inl hne), k3m]; rfl)
        have c2 : W6.cell? ⟨w.heap.size + 1 + 1, 2, none⟩ = some (.slice ua un uc) := by
          rw [hW6]
          exact cell_setCell_same _ _ _ _ (by rw [cell_setCell_other _ _ _ _ _ (.inr (by simp)), cell_setCell_other _ _ _ _ _ (.inr (by simp)), cell_setCell_other _ _ _ _ _ (.inl hne), k3]; rfl)
        have hs6 : Sl W6 w.heap.size 3 (.slice va L.length vc) L.length (rjc L) := by
          rw [hW6]
          refine (hso.mono (by omega)).same (by simp [World.setCell]) fun i hi => ?_
          have hlt := (hso.lt i hi).1
          rw [Below.heap_setCell _ _ _ _ (by simp only; omega), Below.heap_setCell _ _ _ _ (by simp only; omega), Below.heap_setCell _ _ _ _ (by simp only; omega), Below.heap_setCell _ _ _ _ (by simp only; omega)]
        have hb6 : Below w.heap.size w W6 := by
          rw [hW6]
          exact ((((BW3.out.trans (bz.mono (by omega))).setCell (p := ⟨w.heap.size, 0, none⟩) (Nat.le_refl _) _).setCell (p := ⟨w.heap.size + 1 + 1, 0, none⟩) (by simp only; omega) _).setCell (p := ⟨w.heap.size + 1 + 1, 1, none⟩) (by simp only; omega) _).setCell (p := ⟨w.heap.size + 1 + 1, 2, none⟩) (by simp only; omega) _
        rw [← hW6]
        refine bodyPost_ret (by simp [results, Try.results61, go_sem, c0, c1, c2]; rfl) rfl ?_
        exact ⟨_, rfl, by rw [HYS.out, e9]; exact hs6, hb6⟩
      · obtain rfl : d = false := by simpa using hdo
        clear hdo
        have e9 := e8.symm
        rw [if_neg (by simp)] at e9
        have hnn := nums L.length (Nat.le_trans hLl.out hi900.out)
        have n1 := hnn.1
        have n2 := hnn.2.1
        have hwz := hwi.size
        have n3 : W3.heap.size ≤ (wr.alloc (Obj.cells #[.string x.name, .string x.data, .int .i64 x.tm] 85)).heap.size := by simp only [World.size_alloc]; omega
        have hown1 := hwi.out.alloc (Obj.cells #[.string x.name, .string x.data, .int .i64 x.tm] 85)
        have hlit1 := (Sl.lit wr W3.heap.size 3 1 #[.string x.name, .string x.data, .int .i64 x.tm] 85 (by (try simp only [World.size_alloc]); omega) (by decide) rfl)
        have hone := rjc_one x
        have p0 := (hwi.below.cell (p := ⟨w.heap.size + 1, 0, none⟩) (by simp only; have := Z3.out; omega)).trans D1.out.1
        have p1 := (hwi.below.cell (p := ⟨w.heap.size + 1, 1, none⟩) (by simp only; have := Z3.out; omega)).trans D1.out.2.1
        have p2 := (hwi.below.cell (p := ⟨w.heap.size + 1, 2, none⟩) (by simp only; have := Z3.out; omega)).trans D1.out.2.2
        clear e8 hso hwz hnn
        go_wp2_with (at_builtin; refine wpList_append_sl2 _ rfl _ _ 25 rfl W3.heap.size 85 i0 (.agg #[.string ByteArray.empty, .string ByteArray.empty, .int .i64 0]) 3 40 Try.underlying25 Hi.out Hz.out Hs.out Hb.out rfl (by decide) _ L.length _ rfl hown1 W3.heap.size _ 1 [.string x.name, .string x.data, .int .i64 x.tm] rfl hlit1 hone n1 n2 n3 ?_; intro v5 w5 hx5; have W5 := (hwi.alloc (Obj.cells #[.string x.name, .string x.data, .int .i64 x.tm] 85)).ext hx5; clear hx5; have bz := W5.below; have zz := Z3.out; have k0 := (bz.cell (p := ⟨w.heap.size, 0, none⟩) (by simp only; omega)).trans D0.out.1.1; have k1m := (bz.cell (p := ⟨w.heap.size, 1, none⟩) (by simp only; omega)).trans D0.out.1.2.1; have k1 := (bz.cell (p := ⟨w.heap.size, 2, none⟩) (by simp only; omega)).trans D0.out.1.2.2; have k2 := (bz.cell (p := ⟨w.heap.size + 1 + 1, 0, none⟩) (by simp only; omega)).trans D0.out.2.1; have k3m := (bz.cell (p := ⟨w.heap.size + 1 + 1, 1, none⟩) (by simp only; omega)).trans D0.out.2.2.1; have k3 := (bz.cell (p := ⟨w.heap.size + 1 + 1, 2, none⟩) (by simp only; omega)).trans D0.out.2.2.2; have f0 := (bz.frozen (p := ⟨w.heap.size, 0, none⟩) (by simp only; omega)).trans (FR.out 0).1; have f2 := (bz.frozen (p := ⟨w.heap.size + 1 + 1, 0, none⟩) (by simp only; omega)).trans (FR.out 0).2; have f3m := (bz.frozen (p := ⟨w.heap.size + 1 + 1, 1, none⟩) (by simp only; omega)).trans (FR.out 1).2; have f3 := (bz.frozen (p := ⟨w.heap.size + 1 + 1, 2, none⟩) (by simp only; omega)).trans (FR.out 2).2; clear zz; obtain ⟨va5, vc5, rfl⟩ := W5.out.slice; have hso := W5.out; have HBZ := Lib.hid bz; have HSO := Lib.hid hso; clear W5 bz hso)
        have bz := HBZ.out
        have hso := HSO.out
        have z3 := Z3.out
        obtain ⟨W6, hW6⟩ : ∃ W6, W6 = (((w5.setCell ⟨w.heap.size, 0, none⟩ (.slice va5 (L.length + 1) vc5)).setCell ⟨w.heap.size + 1 + 1, 0, none⟩ (.slice va5 (L.length + 1) vc5)).setCell ⟨w.heap.size + 1 + 1, 1, none⟩ (.int .i64 rm)).setCell ⟨w.heap.size + 1 + 1, 2, none⟩ (.slice ua un uc) := ⟨_, rfl⟩
        have hne : w.heap.size + 1 + 1 ≠ w.heap.size := by omega
        have c0 : W6.cell? ⟨w.heap.size + 1 + 1, 0, none⟩ = some (.slice va5 (L.length + 1) vc5) := by
          rw [hW6, cell_setCell_other _ _ _ _ _ (.inr (by simp)), cell_setCell_other _ _ _ _ _ (.inr (by simp))]
          exact cell_setCell_same _ _ _ _ (by rw [cell_setCell_other _ _ _ _ _ (.inl hne), k2]; rfl)
        have c1 : W6.cell? ⟨w.heap.size + 1 + 1, 1, none⟩ = some (.int .i64 rm) := by
          rw [hW6, cell_setCell_other _ _ _ _ _ (.inr (by simp))]
          exact cell_setCell_same _ _ _ _ (by rw [cell_setCell_other _ _ _ _ _ (.inr (by simp)), cell_setCell_other _ _ _ _ _ (.inl hne), k3m]; rfl)
        have c2 : W6.cell? ⟨w.heap.size + 1 + 1, 2, none⟩ = some (.slice ua un uc) := by
          rw [hW6]
          exact cell_setCell_same _ _ _ _ (by rw [cell_setCell_other _ _ _ _ _ (.inr (by simp)), cell_setCell_other _ _ _ _ _ (.inr (by simp)), cell_setCell_other _ _ _ _ _ (.inl hne), k3]; rfl)
        have hs6 : Sl W6 w.heap.size 3 (.slice va5 (L.length + 1) vc5) (L.length + 1) (rjc L ++ encRj x) := by
          rw [hW6]
          refine (hso.mono (by omega)).same (by simp [World.setCell]) fun i hi => ?_
          have hlt := (hso.lt i hi).1
          rw [Below.heap_setCell _ _ _ _ (by simp only; omega), Below.heap_setCell _ _ _ _ (by simp only; omega), Below.heap_setCell _ _ _ _ (by simp only; omega), Below.heap_setCell _ _ _ _ (by simp only; omega)]
        have hb6 : Below w.heap.size w W6 := by
          rw [hW6]
          exact ((((BW3.out.trans (bz.mono (by omega))).setCell (p := ⟨w.heap.size, 0, none⟩) (Nat.le_refl _) _).setCell (p := ⟨w.heap.size + 1 + 1, 0, none⟩) (by simp only; omega) _).setCell (p := ⟨w.heap.size + 1 + 1, 1, none⟩) (by simp only; omega) _).setCell (p := ⟨w.heap.size + 1 + 1, 2, none⟩) (by simp only; omega) _
        rw [← hW6]
        refine bodyPost_ret (by simp [results, Try.results61, go_sem, c0, c1, c2]; rfl) rfl ?_
        exact ⟨_, rfl, by rw [HYS.out, e9]; rw [show (L ++ [x]).length = L.length + 1 by simp, show rjc (L ++ [x]) = rjc L ++ encRj x by simp [rjc]]; exact hs6, hb6⟩
end Go.Proofs.Ytnjoojffefhgpaa

namespace Go.Proofs.Ytnjoojffefhgpaa
open Go.Conc Go.RowKit
set_option linter.unusedVariables false

def usedR (xs : List Rj) : Nat := (xs.map fun x => x.data.size).sum
theorem usedR_take (xs : List Rj) (j : Nat) (x : Rj) (h : xs[j]? = some x) : usedR (xs.take (j + 1)) = usedR (xs.take j) + x.data.size := by
  unfold usedR
  rw [List.take_add_one, h, List.map_append, List.sum_append]
  simp
theorem usedR_le (xs : List Rj) (j : Nat) : usedR (xs.take j) ≤ usedR xs := by
  have h : usedR xs = usedR (xs.take j) + usedR (xs.drop j) := by
    unfold usedR
    rw [← List.sum_append, ← List.map_append, List.take_append_drop]
  omega
theorem rgood_any (s : ByteArray) (w : World) :
    Calls Try.prog 62 #[.string s] w fun e w' => e = .returned (.bool (decide (0 < s.size ∧ s.size ≤ 40))) ∧ w = w' := by
  go_enter Try.func62, Try.ntmps62
  have hl : s.toList.length = s.size := by rw [ByteArray.toList_eq, Array.length_toList]; rfl
  by_cases h : s.toList = []
  · have hz : s.size = 0 := by rw [← hl, h]; rfl
    have hd : decide (0 < s.size ∧ s.size ≤ 40) = false := by simp; omega
    rw [hd]
    clear hl hz hd
    go_wp2
    go_ret
    exact ⟨rfl, rfl⟩
  · have hz : 0 < s.size := by
      rcases Nat.eq_zero_or_pos s.size with h0 | h0
      · exact absurd (List.eq_nil_of_length_eq_zero (hl.trans h0)) h
      · exact h0
    have hd : decide (0 < s.size ∧ s.size ≤ 40) = (!s.toList.isEmpty && decide ((s.size : Int) ≤ 40)) := by
      have he : s.toList.isEmpty = false := by simpa using h
      rw [he]
      by_cases h40 : s.size ≤ 40
      · have h40' : (s.size : Int) ≤ 40 := by omega
        simp [hz, h40, h40']
      · have h40' : ¬ (s.size : Int) ≤ 40 := by omega
        simp [h40, h40']
    have HD := Lib.hid hd
    clear hl hd hz
    go_wp2
    go_ret
    exact ⟨by rw [HD.out]; rfl, rfl⟩

set_option maxHeartbeats 1000000 in
set_option maxRecDepth 100000 in
theorem rused_any (base : Nat) (v : Value) (rm : Int) (u : Value) (xs : List Rj) (w : World) (hs : Sl w base 3 v xs.length (rjc xs)) (hlen : xs.length ≤ 1000) (hsz : usedR xs ≤ 2000000) (hu : ∃ a n c, u = .slice a n c) :
    Calls Try.prog 33 #[rdv v rm u] w fun e w' => e = .returned (.int .i64 (usedR xs)) ∧ Below w.heap.size w w' := by
  obtain ⟨ua, un, uc, rfl⟩ := hu
  obtain ⟨a, cap, gl, ol, rfl, hlp, hcl⟩ := sl_open3 hs
  obtain ⟨n, hn⟩ : ∃ n, n = xs.length := ⟨_, rfl⟩
  rw [← hn] at hlp hcl hlen ⊢
  have HN := Lib.hid hn
  have HSZ := Lib.hid hsz
  unfold rdv
  clear hn hs hsz
  go_enter Try.func33, Try.ntmps33
  go_wp2_with fail
  obtain ⟨V, hV⟩ : ∃ V, V = w.alloc (.cells #[.slice a n cap, .int .i64 rm, .slice ua un uc] 30) := ⟨_, rfl⟩
  have bV : Below w.heap.size w V := by rw [hV]; exact (Below.refl _ _).alloc (Nat.le_refl _) _
  rw [← hV]
  go_loopw [3, 9] (fun vm vj wr => ∃ j : Nat, vj = .int .i64 j ∧ j ≤ n ∧ vm = .int .i64 (usedR (xs.take j)) ∧ Below w.heap.size w wr) (fun _ vj _ => n - (RowKit.intOf vj).toNat)
  case atStart => exact ⟨0, rfl, by omega, rfl, bV⟩
  case round =>
    obtain ⟨j, rfl, hj, rfl, b7⟩ := hrel
    by_cases hjn : j < n
    · obtain ⟨rfl, hlg, hgl⟩ := hlp (by omega)
      obtain ⟨x, hx⟩ : ∃ x, xs[j]? = some x := ⟨xs[j]'(by have := HN.out; omega), List.getElem?_eq_getElem (by have := HN.out; omega)⟩
      obtain ⟨v0, v1, v2⟩ := rjc_at xs j x hx
      have q0 := ((b7.cell (p := ⟨gl, ol + j * 3, none⟩) hgl).trans (hcl (j * 3) (by omega))).trans v0
      have q1 := ((b7.cell (p := ⟨gl, ol + (j * 3 + 1), none⟩) hgl).trans (hcl (j * 3 + 1) (by omega))).trans v1
      have q2 := ((b7.cell (p := ⟨gl, ol + (j * 3 + 2), none⟩) hgl).trans (hcl (j * 3 + 2) (by omega))).trans v2
      rw [← Nat.add_assoc] at q1 q2
      have hjn' : (j : Int) < n := by omega
      have hst := usedR_take xs j x hx
      have hle := usedR_le xs (j + 1)
      rw [hst] at hle
      have hle2 : usedR (xs.take j) + x.data.size ≤ 2000000 := Nat.le_trans hle HSZ.out
      have HST := Lib.hid hst
      obtain ⟨U, hU⟩ : ∃ U, U = usedR (xs.take j) := ⟨_, rfl⟩
      rw [← hU] at hle2 ⊢
      have HU := Lib.hid hU
      clear hcl hlp v0 v1 v2 hV bV hst hle hU
      go_wp2_with fail
      refine ⟨⟨j + 1, by go_num, by omega, by rw [HST.out, ← HU.out]; go_num, b7.alloc b7.size _⟩, by simp [RowKit.intOf]; omega⟩
    · have hjn' : ¬ (j : Int) < n := by omega
      clear hcl hlp hV bV
      go_wp2_with fail
      go_ret
      refine ⟨?_, b7⟩
      show Ending.returned (.int .i64 (usedR (xs.take j))) = _
      rw [List.take_of_length_le (by have := HN.out; omega)]
end Go.Proofs.Ytnjoojffefhgpaa

namespace Go.Proofs.Ytnjoojffefhgpaa
open Go.Conc Go.RowKit
set_option linter.unusedVariables false

/-- The box of the disk handed in, and the result's; what lies in them. -/
structure DB (base : Nat) (w : World) (v0 u0 : Value) (rm : Int) (xs : List Rj) (A : List Ft) (v u : Value) (W : World) : Prop where
  c0 : W.cell? ⟨w.heap.size, 0, none⟩ = some v
  c1 : W.cell? ⟨w.heap.size, 1, none⟩ = some (.int .i64 rm)
  c2 : W.cell? ⟨w.heap.size, 2, none⟩ = some u
  r0 : W.cell? ⟨w.heap.size + 1, 0, none⟩ = some (.slice none 0 0)
  r1 : W.cell? ⟨w.heap.size + 1, 1, none⟩ = some (.int .i64 0)
  r2 : W.cell? ⟨w.heap.size + 1, 2, none⟩ = some (.slice none 0 0)
  fb : ∀ o, W.frozen? ⟨w.heap.size, o, none⟩ = false
  fr : ∀ o, W.frozen? ⟨w.heap.size + 1, o, none⟩ = false
  s : Sl W base 3 v xs.length (rjc xs)
  t : Sl W base 2 u A.length (ftc A)
  ov : ∀ k, v.ownBlock = some k → v0.ownBlock = some k ∨ w.heap.size + 2 ≤ k
  ou : ∀ k, u.ownBlock = some k → u0.ownBlock = some k ∨ w.heap.size + 2 ≤ k
  below : Below w.heap.size w W
  size : w.heap.size + 2 ≤ W.heap.size
  hv0 : ∀ k, v0.ownBlock = some k → k < w.heap.size
  hu0 : ∀ k, u0.ownBlock = some k → k < w.heap.size

theorem DB.on {base : Nat} {w : World} {v0 u0 : Value} {rm : Int} {xs : List Rj} {A : List Ft} {v u : Value} {W W' : World} (h : DB base w v0 u0 rm xs A v u W) (b : Below W.heap.size W W') : DB base w v0 u0 rm xs A v u W' :=
  have h0 : w.heap.size < W.heap.size := by have := h.size; omega
  have h1 : w.heap.size + 1 < W.heap.size := by have := h.size; omega
  ⟨(b.cell (p := ⟨w.heap.size, 0, none⟩) h0).trans h.c0, (b.cell (p := ⟨w.heap.size, 1, none⟩) h0).trans h.c1, (b.cell (p := ⟨w.heap.size, 2, none⟩) h0).trans h.c2,
    (b.cell (p := ⟨w.heap.size + 1, 0, none⟩) h1).trans h.r0, (b.cell (p := ⟨w.heap.size + 1, 1, none⟩) h1).trans h.r1, (b.cell (p := ⟨w.heap.size + 1, 2, none⟩) h1).trans h.r2,
    fun o => (b.frozen (p := ⟨w.heap.size, o, none⟩) h0).trans (h.fb o), fun o => (b.frozen (p := ⟨w.heap.size + 1, o, none⟩) h1).trans (h.fr o), h.s.on b, h.t.on b, h.ov, h.ou,
    h.below.trans (b.mono (by omega)), Nat.le_trans h.size b.size, h.hv0, h.hu0⟩

theorem DB.start (base : Nat) (v u : Value) (rm : Int) (xs : List Rj) (A : List Ft) (w : World) (hs : Sl w base 3 v xs.length (rjc xs)) (hu : Sl w base 2 u A.length (ftc A)) :
    DB base w v u rm xs A v u ((w.alloc (.cells #[v, .int .i64 rm, u] 30)).alloc (.cells #[.slice none 0 0, .int .i64 0, .slice none 0 0] 30)) := by
  obtain ⟨V, hV⟩ : ∃ V, V = (w.alloc (.cells #[v, .int .i64 rm, u] 30)).alloc (.cells #[.slice none 0 0, .int .i64 0, .slice none 0 0] 30) := ⟨_, rfl⟩
  have g0 : V.heap[w.heap.size]? = some (.cells #[v, .int .i64 rm, u] 30) := by
    rw [hV, Below.heap_alloc _ _ _ (by simp)]; exact heap_alloc_new w _
  have g1 : V.heap[w.heap.size + 1]? = some (.cells #[.slice none 0 0, .int .i64 0, .slice none 0 0] 30) := by
    have := heap_alloc_new (w.alloc (.cells #[v, .int .i64 rm, u] 30)) (.cells #[.slice none 0 0, .int .i64 0, .slice none 0 0] 30)
    rw [World.size_alloc] at this
    rw [hV]; exact this
  have b : Below w.heap.size w V := by rw [hV]; exact ((Below.refl _ _).alloc (Nat.le_refl _) _).alloc (by simp) _
  rw [← hV]
  exact ⟨(cell_of_row _ _ 0 _ _ _ g0).trans rfl, (cell_of_row _ _ 1 _ _ _ g0).trans rfl, (cell_of_row _ _ 2 _ _ _ g0).trans rfl, (cell_of_row _ _ 0 _ _ _ g1).trans rfl, (cell_of_row _ _ 1 _ _ _ g1).trans rfl, (cell_of_row _ _ 2 _ _ _ g1).trans rfl,
    fun o => by simp only [World.frozen?, g0]; rfl, fun o => by simp only [World.frozen?, g1]; rfl, hs.on b, hu.on b, fun _ h => .inl h, fun _ h => .inl h, b, by rw [hV]; simp, fun k hk => (hs.lt k hk).2, fun k hk => (hu.lt k hk).2⟩

/-- Another fuse stored. -/
theorem DB.setF {base : Nat} {w : World} {v0 u0 : Value} {rm : Int} {xs : List Rj} {A A' : List Ft} {v u u' : Value} {W : World} (h : DB base w v0 u0 rm xs A v u W) (ht : Sl W base 2 u' A'.length (ftc A')) (ho : ∀ k, u'.ownBlock = some k → u0.ownBlock = some k ∨ w.heap.size + 2 ≤ k) :
    DB base w v0 u0 rm xs A' v u' (W.setCell ⟨w.heap.size, 2, none⟩ u') := by
  have T : Turn (fun i => i = w.heap.size) W (W.setCell ⟨w.heap.size, 2, none⟩ u') := Turn.setCell (S := fun i => i = w.heap.size) (Turn.refl _ W) ⟨w.heap.size, 2, none⟩ _ rfl
  refine ⟨?_, ?_, cell_setCell_same _ _ _ _ (by rw [h.c2]; rfl), ?_, ?_, ?_, fun o => ?_, fun o => ?_, ?_, ?_, h.ov, ho, h.below.setCell (p := ⟨w.heap.size, 2, none⟩) (Nat.le_refl _) _, ?_, h.hv0, h.hu0⟩
  · rw [cell_setCell_other _ _ _ _ _ (.inr (by simp))]; exact h.c0
  · rw [cell_setCell_other _ _ _ _ _ (.inr (by simp))]; exact h.c1
  · rw [cell_setCell_other _ _ _ _ _ (.inl (by simp))]; exact h.r0
  · rw [cell_setCell_other _ _ _ _ _ (.inl (by simp))]; exact h.r1
  · rw [cell_setCell_other _ _ _ _ _ (.inl (by simp))]; exact h.r2
  · rw [frozen_setCell]; exact h.fb o
  · rw [frozen_setCell]; exact h.fr o
  · exact h.s.same T.size fun k hk => T.block k (h.s.lt k hk).2 (by rcases h.ov k hk with e | e; have := h.hv0 k e; omega; omega)
  · exact ht.same T.size fun k hk => T.block k (ht.lt k hk).2 (by rcases ho k hk with e | e; have := h.hu0 k e; omega; omega)
  · have := h.size; simpa [World.setCell] using this
/-- Another list stored. -/
theorem DB.setL {base : Nat} {w : World} {v0 u0 : Value} {rm : Int} {xs xs' : List Rj} {A : List Ft} {v u v' : Value} {W : World} (h : DB base w v0 u0 rm xs A v u W) (hs : Sl W base 3 v' xs'.length (rjc xs')) (ho : ∀ k, v'.ownBlock = some k → v0.ownBlock = some k ∨ w.heap.size + 2 ≤ k) :
    DB base w v0 u0 rm xs' A v' u (((W.setCell ⟨w.heap.size, 0, none⟩ v').setCell ⟨w.heap.size, 1, none⟩ (.int .i64 rm)).setCell ⟨w.heap.size, 2, none⟩ u) := by
  have T : Turn (fun i => i = w.heap.size) W (((W.setCell ⟨w.heap.size, 0, none⟩ v').setCell ⟨w.heap.size, 1, none⟩ (.int .i64 rm)).setCell ⟨w.heap.size, 2, none⟩ u) :=
    Turn.setCell (S := fun i => i = w.heap.size) (Turn.setCell (S := fun i => i = w.heap.size) (Turn.setCell (S := fun i => i = w.heap.size) (Turn.refl _ W) ⟨w.heap.size, 0, none⟩ _ rfl) ⟨w.heap.size, 1, none⟩ _ rfl) ⟨w.heap.size, 2, none⟩ _ rfl
  refine ⟨?_, ?_, ?_, ?_, ?_, ?_, fun o => ?_, fun o => ?_, ?_, ?_, ho, h.ou, ((h.below.setCell (p := ⟨w.heap.size, 0, none⟩) (Nat.le_refl _) _).setCell (p := ⟨w.heap.size, 1, none⟩) (Nat.le_refl _) _).setCell (p := ⟨w.heap.size, 2, none⟩) (Nat.le_refl _) _, ?_, h.hv0, h.hu0⟩
  · rw [cell_setCell_other _ _ _ _ _ (.inr (by simp)), cell_setCell_other _ _ _ _ _ (.inr (by simp))]; exact cell_setCell_same _ _ _ _ (by rw [h.c0]; rfl)
  · rw [cell_setCell_other _ _ _ _ _ (.inr (by simp))]; exact cell_setCell_same _ _ _ _ (by rw [cell_setCell_other _ _ _ _ _ (.inr (by simp)), h.c1]; rfl)
  · exact cell_setCell_same _ _ _ _ (by rw [cell_setCell_other _ _ _ _ _ (.inr (by simp)), cell_setCell_other _ _ _ _ _ (.inr (by simp)), h.c2]; rfl)
  · rw [cell_setCell_other _ _ _ _ _ (.inl (by simp)), cell_setCell_other _ _ _ _ _ (.inl (by simp)), cell_setCell_other _ _ _ _ _ (.inl (by simp))]; exact h.r0
  · rw [cell_setCell_other _ _ _ _ _ (.inl (by simp)), cell_setCell_other _ _ _ _ _ (.inl (by simp)), cell_setCell_other _ _ _ _ _ (.inl (by simp))]; exact h.r1
  · rw [cell_setCell_other _ _ _ _ _ (.inl (by simp)), cell_setCell_other _ _ _ _ _ (.inl (by simp)), cell_setCell_other _ _ _ _ _ (.inl (by simp))]; exact h.r2
  · rw [frozen_setCell, frozen_setCell, frozen_setCell]; exact h.fb o
  · rw [frozen_setCell, frozen_setCell, frozen_setCell]; exact h.fr o
  · exact hs.same T.size fun k hk => T.block k (hs.lt k hk).2 (by rcases ho k hk with e | e; have := h.hv0 k e; omega; omega)
  · exact h.t.same T.size fun k hk => T.block k (h.t.lt k hk).2 (by rcases h.ou k hk with e | e; have := h.hu0 k e; omega; omega)
  · have := h.size; simpa [World.setCell] using this
/-- Handed back. -/
theorem DB.ret {base : Nat} {w : World} {v0 u0 : Value} {rm : Int} {xs : List Rj} {A : List Ft} {v u : Value} {W : World} (h : DB base w v0 u0 rm xs A v u W) (W6 : World) (hW : W6 = ((W.setCell ⟨w.heap.size + 1, 0, none⟩ v).setCell ⟨w.heap.size + 1, 1, none⟩ (.int .i64 rm)).setCell ⟨w.heap.size + 1, 2, none⟩ u) :
    W6.cell? ⟨w.heap.size + 1, 0, none⟩ = some v ∧ W6.cell? ⟨w.heap.size + 1, 1, none⟩ = some (.int .i64 rm) ∧ W6.cell? ⟨w.heap.size + 1, 2, none⟩ = some u ∧ Sl W6 base 3 v xs.length (rjc xs) ∧ Sl W6 base 2 u A.length (ftc A) ∧
    (∀ k, v.ownBlock = some k → v0.ownBlock = some k ∨ w.heap.size ≤ k) ∧ (∀ k, u.ownBlock = some k → u0.ownBlock = some k ∨ w.heap.size ≤ k) ∧ Below w.heap.size w W6 := by
  subst hW
  have T : Turn (fun i => i = w.heap.size + 1) W (((W.setCell ⟨w.heap.size + 1, 0, none⟩ v).setCell ⟨w.heap.size + 1, 1, none⟩ (.int .i64 rm)).setCell ⟨w.heap.size + 1, 2, none⟩ u) :=
    Turn.setCell (S := fun i => i = w.heap.size + 1) (Turn.setCell (S := fun i => i = w.heap.size + 1) (Turn.setCell (S := fun i => i = w.heap.size + 1) (Turn.refl _ W) ⟨w.heap.size + 1, 0, none⟩ _ rfl) ⟨w.heap.size + 1, 1, none⟩ _ rfl) ⟨w.heap.size + 1, 2, none⟩ _ rfl
  refine ⟨?_, ?_, ?_, ?_, ?_, fun k hk => (h.ov k hk).imp_right fun e => by omega, fun k hk => (h.ou k hk).imp_right fun e => by omega, ((h.below.setCell (p := ⟨w.heap.size + 1, 0, none⟩) (Nat.le_succ _) _).setCell (p := ⟨w.heap.size + 1, 1, none⟩) (Nat.le_succ _) _).setCell (p := ⟨w.heap.size + 1, 2, none⟩) (Nat.le_succ _) _⟩
  · rw [cell_setCell_other _ _ _ _ _ (.inr (by simp)), cell_setCell_other _ _ _ _ _ (.inr (by simp))]; exact cell_setCell_same _ _ _ _ (by rw [h.r0]; rfl)
  · rw [cell_setCell_other _ _ _ _ _ (.inr (by simp))]; exact cell_setCell_same _ _ _ _ (by rw [cell_setCell_other _ _ _ _ _ (.inr (by simp)), h.r1]; rfl)
  · exact cell_setCell_same _ _ _ _ (by rw [cell_setCell_other _ _ _ _ _ (.inr (by simp)), cell_setCell_other _ _ _ _ _ (.inr (by simp)), h.r2]; rfl)
  · exact h.s.same T.size fun k hk => T.block k (h.s.lt k hk).2 (by rcases h.ov k hk with e | e; have := h.hv0 k e; omega; omega)
  · exact h.t.same T.size fun k hk => T.block k (h.t.lt k hk).2 (by rcases h.ou k hk with e | e; have := h.hu0 k e; omega; omega)
end Go.Proofs.Ytnjoojffefhgpaa

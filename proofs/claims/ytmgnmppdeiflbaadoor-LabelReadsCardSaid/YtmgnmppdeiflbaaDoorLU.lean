/- Layer 6: the document's Key; is a set these pairs; has each name one pair. -/
import Derived.Test.YtmgnmppdeiflbaaDoorLT
import Derived.Test.YtmgnmppdeiflbaaDoorLD
import Derived.Deep.RegionHeld3
namespace Go.Proofs.YtmgnmppdeiflbaaDoor
open Go.RowKit Go.Lib

/-- A truth; if it is true, each name is there once. -/
def SomeU (ds : List Pr) (w : World) (e : Ending) (w' : World) : Prop := ∃ b n, e = .returned (.bool b) ∧ w' = w.drewN n ∧ (b = true → Diff ds)
theorem diff_snoc {l : List Pr} {x : Pr} (h : Diff l) (k : ∀ y ∈ l, y.n ≠ x.n) : Diff (l ++ [x]) := by
  refine List.pairwise_append.2 ⟨h, List.pairwise_singleton _ _, fun a ha b hb => ?_⟩
  rw [List.mem_singleton.1 hb]; exact k a ha

set_option maxHeartbeats 2000000 in
set_option maxRecDepth 100000 in
theorem unlikeS_any (v : Value) (ds : List Pr) (w : World) (h : Rd w 2 v ds.length (prc ds)) (hm : ds.length ≤ 1000000) :
    Calls Tryd.prog 13 #[v] w (SomeU ds w) := by
  have hT := bs_toList
  obtain ⟨_, a, cap, g, off, rfl, hg, hc⟩ := h
  obtain ⟨n, hn⟩ : ∃ n, n = ds.length := ⟨_, rfl⟩
  rw [← hn] at hg hc hm ⊢
  have HN := Lib.hid hn
  have HC := Lib.hid hc
  have HG := Lib.hid hg
  clear hn hc hg
  go_enter Tryd.func13, Tryd.ntmps13
  go_wp2_with fail
  go_loopw [7] (fun i' wr => ∃ (i k : Nat), i' = .int .i64 i ∧ i ≤ n ∧ wr = w.drewN k ∧ Hid (Diff (ds.take i))) (fun i' _ => n - (intOf i').toNat)
  case atStart => exact ⟨0, 0, rfl, by omega, rfl, by simp [Hid, Diff]⟩
  case round =>
    obtain ⟨i, k, rfl, hi, rfl, hdf⟩ := hrel
    have HDF := Lib.hid hdf.out
    clear hdf
    by_cases hlt : i < n
    · obtain ⟨rfl, hgl⟩ := HG.out (by omega)
      have hil : (i : Int) < n := by omega
      obtain ⟨x, hx⟩ : ∃ x, ds[i]? = some x := ⟨ds[i]'(by have := HN.out; omega), List.getElem?_eq_getElem (by have := HN.out; omega)⟩
      have q0 := (HC.out (i * 2) (by omega)).trans (prc_at ds i x hx).1
      have HTK := Lib.hid (show ds.take (i + 1) = ds.take i ++ [x] by rw [List.take_add_one, hx]; rfl)
      clear hx
      go_wp2_with fail
      go_loopw [4] (fun j' wr => ∃ (j k : Nat), j' = .int .i64 j ∧ j ≤ i ∧ wr = w.drewN k ∧ Hid (∀ y ∈ ds.take j, y.n ≠ x.n)) (fun j' _ => i - (intOf j').toNat)
      case atStart => exact ⟨0, k, rfl, by omega, rfl, fun y h => by simp at h⟩
      case round =>
        obtain ⟨j, k2, rfl, hj, rfl, hne⟩ := hrel
        have HNE := Lib.hid hne.out
        clear hne
        by_cases hjl : j < i
        · obtain ⟨y, hy⟩ : ∃ y, ds[j]? = some y := ⟨ds[j]'(by have := HN.out; omega), List.getElem?_eq_getElem (by have := HN.out; omega)⟩
          have p0 := (HC.out (j * 2) (by omega)).trans (prc_at ds j y hy).1
          have hji : (j : Int) < i := by omega
          have hjn : (j : Int) < n := by omega
          have c0 : (w.drewN k2).cell? ⟨g, off + j * 2, none⟩ = some (.string (bs y.n)) := p0
          have c1 : (w.drewN k2).cell? ⟨g, off + i * 2, none⟩ = some (.string (bs x.n)) := q0
          have d0 : (w.drewN k2).drew.cell? ⟨g, off + j * 2, none⟩ = some (.string (bs y.n)) := p0
          have d1 : (w.drewN k2).drew.cell? ⟨g, off + i * 2, none⟩ = some (.string (bs x.n)) := q0
          have HTJ := Lib.hid (show ds.take (j + 1) = ds.take j ++ [y] by rw [List.take_add_one, hy]; rfl)
          clear hy
          by_cases hq : y.n = x.n
          · have hb : (y.n == x.n) = true := by simpa using hq
            clear hq
            go_wp2_with fail
            go_region
            go_wp2
            go_ret
            exact ⟨_, k2 + 1, rfl, by simp, fun h => by cases h⟩
          · have hb : (y.n == x.n) = false := by simpa using hq
            have HQ := Lib.hid (show ∀ z ∈ ds.take (j + 1), z.n ≠ x.n from fun z hz => by
              rw [HTJ.out] at hz
              rcases List.mem_append.1 hz with hz | hz
              · exact HNE.out z hz
              · rw [List.mem_singleton.1 hz]; exact hq)
            clear hq
            go_wp2_with fail
            go_region
            go_wp2
            exact ⟨⟨j + 1, k2 + 1, by simp, by omega, by simp, HQ.out⟩, by simp [intOf]; omega⟩
        · have hji : ¬ (j : Int) < i := by omega
          have HD2 := Lib.hid (show Diff (ds.take (i + 1)) by rw [HTK.out]; exact diff_snoc HDF.out (fun y hy => HNE.out y (by rw [show j = i by omega]; exact hy)))
          go_wp2
          exact ⟨⟨i + 1, k2, by simp, by omega, rfl, HD2.out⟩, by simp [intOf]; omega⟩
    · have hil : ¬ (i : Int) < n := by omega
      have HD2 := Lib.hid (show Diff ds by have := HDF.out; rw [List.take_of_length_le (by have := HN.out; omega)] at this; exact this)
      go_wp2
      go_ret
      exact ⟨_, k, rfl, rfl, fun _ => HD2.out⟩

set_option maxHeartbeats 2000000 in
set_option maxRecDepth 100000 in
theorem is_same (u v : Value) (ds : List Pr) (w : World) (h : Rd w 2 u ds.length (prc ds)) (k : Rd w 2 v ds.length (prc ds)) (hm : ds.length ≤ 1000000) :
    Calls Tryd.prog 14 #[u, v] w fun e w' => e = .returned (.int .i64 0) ∧ Below w.heap.size w w' := by
  obtain ⟨_, a, cap, g, off, rfl, hg, hc⟩ := h
  obtain ⟨_, a2, cap2, g2, off2, rfl, hg2, hc2⟩ := k
  obtain ⟨n, hn⟩ : ∃ n, n = ds.length := ⟨_, rfl⟩
  rw [← hn] at hg hc hg2 hc2 hm ⊢
  have HN := Lib.hid hn
  have HC := Lib.hid hc
  have HG := Lib.hid hg
  have HC2 := Lib.hid hc2
  have HG2 := Lib.hid hg2
  clear hn hc hg hc2 hg2
  go_enter Tryd.func14, Tryd.ntmps14
  go_wp2_with fail
  go_loopw [14] (fun i' wr => ∃ (i : Nat), i' = .int .i64 i ∧ i ≤ n ∧ Below w.heap.size w wr) (fun i' _ => n - (intOf i').toNat)
  case atStart => exact ⟨0, rfl, by omega, Below.refl _ _⟩
  case round =>
    obtain ⟨W0, rfl⟩ : ∃ W0, W0 = wr := ⟨_, rfl⟩
    obtain ⟨i, rfl, hi, hb⟩ := hrel
    by_cases hlt : i < n
    · obtain ⟨rfl, hgl⟩ := HG.out (by omega)
      obtain ⟨rfl, hgl2⟩ := HG2.out (by omega)
      obtain ⟨x, hx⟩ : ∃ x, ds[i]? = some x := ⟨ds[i]'(by have := HN.out; omega), List.getElem?_eq_getElem (by have := HN.out; omega)⟩
      obtain ⟨v0, v1⟩ := prc_at ds i x hx
      have hbz := hb.size
      have q0 := ((hb.cell (p := ⟨g2, off2 + i * 2, none⟩) hgl2).trans (HC2.out (i * 2) (by omega))).trans v0
      have q1 := ((hb.cell (p := ⟨g2, off2 + (i * 2 + 1), none⟩) hgl2).trans (HC2.out (i * 2 + 1) (by omega))).trans v1
      have p0 := ((hb.cell (p := ⟨g, off + i * 2, none⟩) hgl).trans (HC.out (i * 2) (by omega))).trans v0
      have p1 := ((hb.cell (p := ⟨g, off + (i * 2 + 1), none⟩) hgl).trans (HC.out (i * 2 + 1) (by omega))).trans v1
      rw [← Nat.add_assoc] at q1 p1
      have hil : (i : Int) < n := by omega
      have hg1 : g ≠ W0.heap.size := by omega
      have hg3 : g2 ≠ W0.heap.size := by omega
      have hq : ∀ W, (binOp BinOp.neq 54 (.agg #[.string (bs x.n), .string (bs x.v)]) (.agg #[.string (bs x.n), .string (bs x.v)])).run Tryd.prog W = .ok (.bool false) W := fun W => by have := neq_rp x x W; simpa using this
      have B1 := Lib.hid (hb.alloc hbz (.cells #[.string (bs x.n), .string (bs x.v)] 54))
      clear v0 v1 hx
      go_wp2_with fail
      obtain ⟨W, hW⟩ : ∃ W, W = W0.alloc (.cells #[.string (bs x.n), .string (bs x.v)] 54) := ⟨_, rfl⟩
      have g0 : W.cell? ⟨W0.heap.size, 0, none⟩ = some (.string (bs x.n)) := by rw [hW]; simp
      have g1 : W.cell? ⟨W0.heap.size, 1, none⟩ = some (.string (bs x.v)) := by rw [hW]; simp
      have r0 : W.cell? ⟨g, off + i * 2, none⟩ = some (.string (bs x.n)) := by rw [hW]; exact (((Below.refl W0.heap.size W0).alloc (Nat.le_refl _) _).cell (p := ⟨g, off + i * 2, none⟩) (by simp only; omega)).trans p0
      have r1 : W.cell? ⟨g, off + i * 2 + 1, none⟩ = some (.string (bs x.v)) := by rw [hW]; exact (((Below.refl W0.heap.size W0).alloc (Nat.le_refl _) _).cell (p := ⟨g, off + i * 2 + 1, none⟩) (by simp only; omega)).trans p1
      rw [← hW] at B1
      simp only [← hW]
      clear hW q0 q1 p0 p1 hg1 hg3
      go_quiet (fail)
      go_wp2_with fail
      exact ⟨⟨i + 1, by simp, by omega, below_draw B1.out _⟩, by simp [intOf]; omega⟩
    · have hil : ¬ (i : Int) < n := by omega
      go_wp2
      go_ret
      exact ⟨rfl, hb⟩

set_option maxHeartbeats 4000000 in
set_option maxRecDepth 100000 in
theorem rkey_any (v : Value) (ds : List Pr) (w : World) (h : Rd w 2 v ds.length (prc ds)) (hm : (ds.flatMap keyP).length ≤ 10000000) (hn0 : ds.length ≤ 1000000) :
    Calls Tryd.prog 18 #[v] w fun e w' => e = .returned (.string (bs (keyL ds))) ∧ Below w.heap.size w w' := by
  obtain ⟨_, a, cap, g, off, rfl, hg, hc⟩ := h
  obtain ⟨n, hn⟩ : ∃ n, n = ds.length := ⟨_, rfl⟩
  rw [← hn] at hg hc hn0 ⊢
  have HN := Lib.hid hn
  have HC := Lib.hid hc
  have HG := Lib.hid hg
  have HM := Lib.hid hm
  have hul := (Leb.encU_len n).2
  obtain ⟨EU, hEU⟩ : ∃ EU, EU = bs (Leb.encU n) := ⟨_, rfl⟩
  have UN := Lib.hid (fun W => show Calls Tryd.prog 33 #[.int .u64 n] W (fun e w' => e = .returned (.string EU) ∧ Below W.heap.size W w') by rw [hEU]; exact ruint_any n W (by unfold Leb.two64; omega))
  have HEU := Lib.hid hEU
  have wr0 : IntKind.u64.wrap (n : Int) = n := by rw [IntKind.wrap_u64]; omega
  have HUL := Lib.hid hul
  clear hn hc hg hm hEU hul
  go_enter Tryd.func18, Tryd.ntmps18
  go_wp2_with fail
  refine (UN.out _).mono ?_
  rintro e w0 ⟨rfl, b0⟩
  have B0 := Lib.hid b0
  clear b0
  go_wp2_with fail
  go_loopw [3, 12] (fun s' i' wr => ∃ (i : Nat) (S : ByteArray), i' = .int .i64 i ∧ i ≤ n ∧ s' = .string S ∧ Hid (S = bs (Leb.encU n ++ (ds.take i).flatMap keyP)) ∧ Below w.heap.size w wr) (fun _ i' _ => n - (intOf i').toNat)
  case atStart => exact ⟨0, EU, rfl, by omega, rfl, by show _ = _; rw [HEU.out]; simp, B0.out⟩
  case round =>
    obtain ⟨W0, rfl⟩ : ∃ W0, W0 = wr := ⟨_, rfl⟩
    obtain ⟨i, S, rfl, hi, rfl, hS, hb⟩ := hrel
    have HS := Lib.hid hS.out
    clear hS
    by_cases hlt : i < n
    · obtain ⟨rfl, hgl⟩ := HG.out (by omega)
      obtain ⟨x, hx⟩ : ∃ x, ds[i]? = some x := ⟨ds[i]'(by have := HN.out; omega), List.getElem?_eq_getElem (by have := HN.out; omega)⟩
      obtain ⟨v0, v1⟩ := prc_at ds i x hx
      have hbz := hb.size
      have q0 := ((hb.cell (p := ⟨g, off + i * 2, none⟩) hgl).trans (HC.out (i * 2) (by omega))).trans v0
      have q1 := ((hb.cell (p := ⟨g, off + (i * 2 + 1), none⟩) hgl).trans (HC.out (i * 2 + 1) (by omega))).trans v1
      rw [← Nat.add_assoc] at q1
      have hgw : g ≠ W0.heap.size := by omega
      have hil : (i : Int) < n := by omega
      have ht : ds.take (i + 1) = ds.take i ++ [x] := by rw [List.take_add_one, hx]; rfl
      have hle := key_take ds (i + 1)
      have hfl : (ds.take (i + 1)).flatMap keyP = (ds.take i).flatMap keyP ++ (Leb.encT x.n ++ Leb.encT x.v) := by rw [ht, List.flatMap_append]; simp [keyP]
      rw [hfl] at hle
      simp only [List.length_append] at hle
      have hmm := HM.out
      have hen : x.n.length ≤ (Leb.encT x.n).length := by unfold Leb.encT; rw [List.length_append]; omega
      have hev : x.v.length ≤ (Leb.encT x.v).length := by unfold Leb.encT; rw [List.length_append]; omega
      obtain ⟨N, hN⟩ : ∃ N, N = bs x.n := ⟨_, rfl⟩
      obtain ⟨V, hV⟩ : ∃ V, V = bs x.v := ⟨_, rfl⟩
      obtain ⟨EN, hEN⟩ : ∃ E, E = bs (Leb.encT x.n) := ⟨_, rfl⟩
      obtain ⟨EV, hEV⟩ : ∃ E, E = bs (Leb.encT x.v) := ⟨_, rfl⟩
      have sS : S.size ≤ 20000000 := by rw [HS.out, bs_size, List.length_append]; have := HUL.out; have := key_take ds i; omega
      have sN : EN.size ≤ 20000000 := by rw [hEN, bs_size]; omega
      have sV : EV.size ≤ 20000000 := by rw [hEV, bs_size]; omega
      have TN := Lib.hid (fun W => show Calls Tryd.prog 34 #[.string N] W (fun e w' => e = .returned (.string EN) ∧ Below W.heap.size W w') by
        have := rtextL_any N W (by rw [hN, bs_size]; omega)
        rw [hN, bs_list, ← hN, ← hEN] at this
        exact this)
      have TV := Lib.hid (fun W => show Calls Tryd.prog 34 #[.string V] W (fun e w' => e = .returned (.string EV) ∧ Below W.heap.size W w') by
        have := rtextL_any V W (by rw [hV, bs_size]; omega)
        rw [hV, bs_list, ← hV, ← hEV] at this
        exact this)
      have HR := Lib.hid (show S ++ (EN ++ EV) = bs (Leb.encU n ++ (ds.take (i + 1)).flatMap keyP) by
        rw [HS.out, hEN, hEV, bs_append, bs_append, hfl, List.append_assoc])
      have j1 : ¬ 9223372036854775807 < EN.size + EV.size := by omega
      have j2 : ¬ 9223372036854775807 < S.size + (EN.size + EV.size) := by omega
      rw [← hN] at q0
      rw [← hV] at q1
      have B1 := Lib.hid (hb.alloc hbz (.cells #[.string N, .string V] 54))
      clear v0 v1 hx ht hle hfl hmm hen hev hN hV hEN hEV HS
      go_wp2_with fail
      obtain ⟨W, hW⟩ : ∃ W, W = W0.alloc (.cells #[.string N, .string V] 54) := ⟨_, rfl⟩
      have g0 : W.cell? ⟨W0.heap.size, 0, none⟩ = some (.string N) := by rw [hW]; simp
      have g1 : W.cell? ⟨W0.heap.size, 1, none⟩ = some (.string V) := by rw [hW]; simp
      have gz : W0.heap.size < W.heap.size := by rw [hW]; simp
      rw [← hW] at B1
      simp only [← hW]
      clear hW q0 q1
      have KX := Lib.hid (fun (W' : World) (b : Below W.heap.size W W') => show W'.cell? ⟨W0.heap.size, 0, none⟩ = some (.string N) ∧ W'.cell? ⟨W0.heap.size, 1, none⟩ = some (.string V) from ⟨(b.cell (p := ⟨W0.heap.size, 0, none⟩) gz).trans g0, (b.cell (p := ⟨W0.heap.size, 1, none⟩) gz).trans g1⟩)
      have BD := Lib.hid (show Below W.heap.size W W.drew from (Below.refl W.heap.size W).drew)
      have k0 := KX.out _ BD.out
      go_region_held3 (fun w' => w'.cell? ⟨W0.heap.size, 0, none⟩ = some (.string N) ∧ w'.cell? ⟨W0.heap.size, 1, none⟩ = some (.string V)) (with_reducible assumption)
        (first
          | (go_at_call 34; (with_reducible refine (TN.out _).mono ?_); rintro e w5 ⟨rfl, b5⟩; have q5 : Below W.heap.size W w5 := BD.out.trans b5; have k5 := KX.out _ q5)
          | (go_at_call 34; (with_reducible refine (TV.out _).mono ?_); rintro e w6 ⟨rfl, b6⟩; have q6 : Below W.heap.size W w6 := q5.trans (b6.mono q5.size); have k6 := KX.out _ q6))
      go_wp2_with fail
      exact ⟨⟨i + 1, _, by simp, by omega, rfl, HR.out, B1.out.trans (q6.mono B1.out.size)⟩, by simp [intOf]; omega⟩
    · have hil : ¬ (i : Int) < n := by omega
      have hd : ds.take i = ds := List.take_of_length_le (by have := HN.out; omega)
      have HQ := Lib.hid (show S = bs (keyL ds) by rw [HS.out, hd, HN.out]; rfl)
      clear HS hd
      go_wp2
      go_ret
      exact ⟨by rw [← HQ.out]; rfl, hb⟩
end Go.Proofs.YtmgnmppdeiflbaaDoor

/- Layer 9's stage: samples through chunks, records, and back: the law, walked. -/
import Derived.Test.YtajkleknjjpldaaDoorMFD
import Derived.Test.YtajkleknjjpldaaDoorMFE
import Derived.Laws.StructEq
namespace Go.Proofs.YtajkleknjjpldaaDoor
open Go.RowKit Go.Lib

/-- The law's value at a place. -/
def fv (vs : List Nat) (i : Nat) : Nat := if 0 < vs.length then vs.getD (i % vs.length) 0 else i % 18446744073709551616
theorem fv_lt (vs : List Nat) (h : ∀ x ∈ vs, x < 18446744073709551616) (i : Nat) : fv vs i < 18446744073709551616 := by
  unfold fv
  split
  · rename_i h0
    have hlt : i % vs.length < vs.length := Nat.mod_lt _ h0
    rw [List.getD_eq_getElem?_getD, List.getElem?_eq_getElem hlt]
    exact h _ (List.getElem_mem hlt)
  · omega
theorem fv_none (i : Nat) (h : i ≤ 400) : fv [] i = i := by
  unfold fv
  rw [if_neg (by simp)]
  omega
theorem fv_some (vs : List Nat) (i : Nat) (h : 0 < vs.length) : ∃ x, vs[i % vs.length]? = some x ∧ fv vs i = x := by
  have hlt : i % vs.length < vs.length := Nat.mod_lt _ h
  refine ⟨_, List.getElem?_eq_getElem hlt, ?_⟩
  unfold fv
  rw [if_pos h, List.getD_eq_getElem?_getD, List.getElem?_eq_getElem hlt]
  rfl

theorem slice_piece (g off n cap lo hi : Nat) (h1 : lo < hi) (h2 : hi ≤ n) (h3 : n ≤ cap) (W : World) : (Instr.slice 24 (.slice (some ⟨g, off, none⟩) n cap) (some (.int .i64 lo)) (some (.int .i64 hi)) none).run Tryd.prog W = .ok (.slice (some ⟨g, off + lo * 2, none⟩) (hi - lo) (cap - lo)) W := by
  have hu := run_underlying Tryd.underlying24
  have hsz := Tryd.sizeOf27
  simp [Instr.slice, Instr.sliceBounds, go_sem, hu, hsz, Addr.add]
  rw [if_pos (by omega), if_pos (by omega), if_neg (by omega)]
  split
  · obtain rfl : lo = 0 := by omega
    rfl
  · rfl

/-- A piece, only read. -/
theorem rd_piece {w : World} {base g off n cap : Nat} {l : List Xo.Sm} (h : Sl w base 2 (.slice (some ⟨g, off, none⟩) n cap) n (smc l)) (lo hi : Nat) (h1 : lo < hi) (h2 : hi ≤ n) : Rd w 2 (.slice (some ⟨g, off + lo * 2, none⟩) (hi - lo) (cap - lo)) ((l.drop lo).take (hi - lo)).length (smc ((l.drop lo).take (hi - lo))) := by
  have hln : l.length = n := by have := h.1; rw [smc_length] at this; omega
  have hpl : ((l.drop lo).take (hi - lo)).length = hi - lo := by rw [List.length_take, List.length_drop]; omega
  have hgl := (h.lt g rfl).2
  refine ⟨smc_length _, some ⟨g, off + lo * 2, none⟩, cap - lo, g, off + lo * 2, by rw [hpl], fun _ => ⟨rfl, hgl⟩, fun j hj => ?_⟩
  obtain ⟨q, hq⟩ : ∃ q, q = j / 2 := ⟨_, rfl⟩
  have hj2 : q < hi - lo := by rw [hpl] at hj; omega
  obtain ⟨s, hs⟩ : ∃ s, l[lo + q]? = some s := ⟨_, List.getElem?_eq_getElem (by omega)⟩
  have hp : ((l.drop lo).take (hi - lo))[q]? = some s := by rw [List.getElem?_take, if_pos hj2, List.getElem?_drop, hs]
  have c := smc_at l _ _ hs
  have d := smc_at _ _ _ hp
  rcases (by omega : j = q * 2 ∨ j = q * 2 + 1) with e | e
  · have u := h.cells _ _ c.1
    rw [Addr.add_lit] at u
    rw [show off + lo * 2 + j = off + (lo + q) * 2 by omega, u, e, d.1]
  · have u := h.cells _ _ c.2
    rw [Addr.add_lit] at u
    rw [show off + lo * 2 + j = off + ((lo + q) * 2 + 1) by omega, u, e, d.2]

theorem two_cellsE (w : World) (a b : Value) (t : TypeId) : ∀ j u, [a, b][j]? = some u → (w.alloc (.cells #[a, b] t)).cell? ((⟨w.heap.size, 0, none⟩ : Addr).add j) = some u := by
  intro j u hu
  exact (Sl.lit w w.heap.size 2 1 #[a, b] t (Nat.le_refl _) (by decide) rfl).cells j u hu
theorem piece_min (l : List Xo.Sm) (a hi : Nat) (h : hi = min (a + 100) l.length) : (l.drop a).take (hi - a) = (l.drop a).take 100 := by
  rcases Nat.le_total (a + 100) l.length with h1 | h1
  · rw [show hi - a = 100 by omega]
  · rw [List.take_of_length_le (by rw [List.length_drop]; omega), List.take_of_length_le (by rw [List.length_drop]; omega)]
theorem laid_succ (l : List Xo.Sm) (k : Nat) : Fr.laid (recsOf (pieces l (k + 1))) = Fr.laid (recsOf (pieces l k)) ++ Fr.rec 4 (Xo.text ((l.drop (100 * k)).take 100)) := by
  rw [pieces_succ, recsOf_append, Fr.laid_append]
  simp [recsOf, Fr.laid]
theorem smF_cells {w : World} {base g off n cap : Nat} {l : List Xo.Sm} (h : Sl w base 2 (.slice (some ⟨g, off, none⟩) n cap) n (smc l)) (j : Nat) (s1 : Int) (s2 : Nat) (hj : l[j]? = some (s1, s2)) : w.cell? ⟨g, off + j * 2, none⟩ = some (.int .i64 s1) ∧ w.cell? ⟨g, off + j * 2 + 1, none⟩ = some (.int .u64 s2) := by
  have hc := smc_at l j _ hj
  have h0 := h.cells _ _ hc.1
  have h1 := h.cells _ _ hc.2
  rw [Addr.add_lit] at h0 h1
  exact ⟨h0, h1⟩

set_option maxHeartbeats 4000000 in
set_option maxRecDepth 100000 in
theorem chunked_any (n step : Int) (ao : Option Addr) (len cap : Nat) (vs : List Nat) (w : World) (hn : (Lit.int .i64 n).wf = true) (hs : (Lit.int .i64 step).wf = true) (hlen : len ≤ maxLen) (hv : UmsAt w ao len cap vs) (hT : Tabs w.heap.size w) :
    Calls Tryd.prog 3 #[.int .i64 n, .int .i64 step, .slice ao len cap] w fun e w' => e = .returned (.bool true) ∧ Below w.heap.size w w' := by
  have LV := Lib.hid (fun W => live_any W)
  have hnb := bd_i64 hn
  have hsb := bd_i64 hs
  by_cases hok : 0 ≤ n ∧ n ≤ 400 ∧ 1 ≤ step ∧ step ≤ 1048576
  · obtain ⟨h0, h1, h2, h3⟩ := hok
    obtain ⟨N, rfl⟩ : ∃ N : Nat, n = N := ⟨n.toNat, by omega⟩
    have hN : N ≤ 400 := by omega
    obtain ⟨hvl, hvb, hva⟩ := hv
    have hRi := stS_ri (fv vs) step N hN h2 h3 (fv_lt vs hvb)
    have hLl := stS_length (fv vs) step N
    have OFG := Lib.hid (fun W (b : Below w.heap.size w W) v l (hv : Rd W 2 v l.length (smc l)) (hg : Xo.Good l) => of_good w.heap.size v l W hv hg (hT.below b (Nat.le_refl _)))
    have CHK := Lib.hid (fun W (b : Below w.heap.size w W) ls (g1 : ∀ p ∈ ls, Xo.Good p ∧ 0 < p.length) (g2 : Ri ls.flatten) (g3 : ls.length ≤ 100) => chunks_any w.heap.size ls W g1 g2 g3 (hT.below b (Nat.le_refl _)))
    obtain ⟨L, hL⟩ : ∃ L, L = stS (fv vs) step N := ⟨_, rfl⟩
    rw [← hL] at hRi hLl
    have HRI := Lib.hid hRi
    have HLL := Lib.hid hLl
    have HL := Lib.hid hL
    have HVA := Lib.hid hva
    have HVB := Lib.hid hvb
    have HVL := Lib.hid hvl
    obtain ⟨i0, hi, hz0, hz1, hz2⟩ := info_parts bi_smE
    have Hz := Lib.hid hz0; have Hs := Lib.hid hz1; have Hb := Lib.hid hz2; have Hi := Lib.hid hi
    clear hz0 hz1 hz2 hi hT hRi hLl hL hva hvb hvl hn hs hnb
    have e1 : ¬ (N : Int) < 0 := by omega
    have e2 : ¬ (400 : Int) < N := by omega
    have e3 : ¬ step < 1 := by omega
    have e4 : ¬ (1048576 : Int) < step := by omega
    go_enter Tryd.func3, Tryd.ntmps3
    go_wp2_with fail
    refine (LV.out _).mono ?_
    rintro e w1 ⟨rfl, b1⟩
    have s0 := Sl.lit w1 w1.heap.size 2 0 #[] 27 (Nat.le_refl _) (by decide) rfl
    have bb0 : Below w1.heap.size w1 (w1.alloc (.cells #[] 27)) := (Below.refl _ _).alloc (Nat.le_refl _) _
    go_wp2_with fail
    go_loopw [7, 8] (fun l' i' wr => ∃ (i : Nat), i' = .int .i64 i ∧ i ≤ N ∧ Sl wr w1.heap.size 2 l' i (smc (stS (fv vs) step i)) ∧ Below w1.heap.size w1 wr) (fun _ i' _ => N - (RowKit.intOf i').toNat)
    case atStart => exact ⟨0, rfl, by omega, s0, bb0⟩
    case round =>
      obtain ⟨i, rfl, hi, sl, hb⟩ := hrel
      by_cases hlt : i < N
      · have hS := Lib.hid (stS_succ (fv vs) step i)
        have hmb := mul_le i step (by omega) h2 h3
        obtain ⟨t, ht⟩ : ∃ t, t = (i : Int) * step := ⟨_, rfl⟩
        rw [← ht] at hS hmb
        have hmul : (i : Int) * step = t := ht.symm
        obtain ⟨hm1, hm2⟩ := hmb
        have hlt' : (i : Int) < N := by omega
        have zb := hb.size
        have n1 : i + 1 ≤ maxLen := by unfold maxLen; omega
        have n2 : (i + 1) * 16 ≤ 140737488355328 := by omega
        rcases Nat.eq_zero_or_pos len with hl0 | hl0
        · have hx0 : fv vs i = i := by
            have := HVL.out
            obtain rfl : vs = [] := List.eq_nil_of_length_eq_zero (by omega)
            exact fv_none i (by omega)
          rw [hx0] at hS
          subst hl0
          have sla := sl.alloc (.cells #[.int .i64 t, .int .u64 (i : Int)] 27)
          clear hx0 ht
          go_wp2_with (at_builtin; refine wpList_append_sl _ rfl _ _ 24 rfl w1.heap.size 27 i0 (.agg #[.int .i64 0, .int .u64 0]) 2 16 Tryd.underlying24 Hi.out Hz.out Hs.out Hb.out rfl (by decide) _ _ _ rfl sla ⟨wr.heap.size, 0, none⟩ 1 1 [_, _] rfl rfl (two_cellsE _ _ _ _) (by simp [Value.oneCell']) n1 n2 (by simp; omega) ?_; intro v' w2 hx; obtain ⟨a2, c2, rfl⟩ := hx.now.slice)
          refine ⟨⟨i + 1, by go_num, hlt, ?_, ?_⟩, by simp [RowKit.intOf]; omega⟩
          · have := hx.now
            rw [hS.out, smc_appendE]
            exact this
          · exact (hb.alloc hb.size _).trans (hx.below (Nat.le_refl _) (by simp; omega))
        · obtain ⟨x, hx1, hx0⟩ := fv_some vs i (by have := HVL.out; omega)
          obtain ⟨vg, vo, rfl, hvg, hvc⟩ := HVA.out hl0
          have cx := (hb.cell (p := ⟨vg, vo + i % vs.length, none⟩) (Nat.lt_of_lt_of_le hvg b1.size)).trans ((b1.cell (p := ⟨vg, vo + i % vs.length, none⟩) hvg).trans (hvc _ _ hx1))
          rw [HVL.out] at cx hx1
          rw [hx0] at hS
          obtain ⟨r, hr⟩ : ∃ r, r = i % len := ⟨_, rfl⟩
          rw [← hr] at cx
          have hrl : r < len := by rw [hr]; exact Nat.mod_lt _ hl0
          have hrem : Int.tmod (i : Int) (len : Int) = (r : Int) := by rw [hr]; rfl
          have hl1 : (0 : Int) < (len : Int) := by omega
          have hl2 : ¬ (len : Int) = 0 := by omega
          have hr0 : (0 : Int) ≤ (r : Int) := by omega
          have hr1 : (r : Int) < (len : Int) := by omega
          have hxb : x < 18446744073709551616 := HVB.out x (List.mem_of_getElem? hx1)
          have sla := sl.alloc (.cells #[.int .i64 t, .int .u64 (x : Int)] 27)
          clear hx0 ht hx1 hr hvc
          go_wp2_with (at_builtin; refine wpList_append_sl _ rfl _ _ 24 rfl w1.heap.size 27 i0 (.agg #[.int .i64 0, .int .u64 0]) 2 16 Tryd.underlying24 Hi.out Hz.out Hs.out Hb.out rfl (by decide) _ _ _ rfl sla ⟨wr.heap.size, 0, none⟩ 1 1 [_, _] rfl rfl (two_cellsE _ _ _ _) (by simp [Value.oneCell']) n1 n2 (by simp; omega) ?_; intro v' w2 hx; obtain ⟨a2, c2, rfl⟩ := hx.now.slice)
          refine ⟨⟨i + 1, by go_num, hlt, ?_, ?_⟩, by simp [RowKit.intOf]; omega⟩
          · have := hx.now
            rw [hS.out, smc_appendE]
            exact this
          · exact (hb.alloc hb.size _).trans (hx.below (Nat.le_refl _) (by simp; omega))
      · obtain rfl : i = N := by omega
        rw [← HL.out] at sl
        have LL := Lib.hid sl
        have HB1 := Lib.hid hb
        have B0r := Lib.hid (b1.trans (hb.mono b1.size))
        have zr := B0r.out.size
        obtain ⟨wo, rfl⟩ : ∃ wo, wo = wr := ⟨_, rfl⟩
        clear sl hlt hi hb s0 bb0
        obtain ⟨sa, sc, rfl⟩ := LL.out.slice
        go_wp2_with fail
        go_loopw [10, 11] (fun b' at' wr => ∃ (k a m : Nat), at' = .int .i64 a ∧ a = 100 * k ∧ a < i + 100 ∧ Sl wr wo.heap.size 1 b' m (cb (Fr.laid (recsOf (pieces L k)))) ∧ Below wo.heap.size wo wr) (fun _ at' _ => i + 100 - (RowKit.intOf at').toNat)
        case atStart => exact ⟨0, 0, 0, rfl, rfl, by omega, Sl.nil _ _ _, Below.refl _ _⟩
        case round =>
          obtain ⟨k, a, m, rfl, hak, hai, sb, hb2⟩ := hrel
          have zz := hb2.size
          by_cases hlt : a < i
          · obtain ⟨hi, hhi⟩ : ∃ hi, hi = min (a + 100) i := ⟨_, rfl⟩
            have hp := piece_min L a hi (by rw [HLL.out]; exact hhi)
            have hgp : Xo.Good ((L.drop a).take 100) := HRI.out.piece a
            obtain ⟨g, off, rfl⟩ : ∃ g off, sa = some ⟨g, off, none⟩ := by
              rcases LL.out.2 with ⟨h0, _⟩ | ⟨g, off, cap', he, _⟩
              · cases h0; omega
              · cases he; exact ⟨g, off, rfl⟩
            have hcap : i ≤ sc := by
              rcases LL.out.2 with ⟨h0, _⟩ | ⟨g, off, cap', he, _, _, h1, _⟩
              · cases h0
              · cases he; exact h1
            have rd := rd_piece (LL.out.on hb2) a hi (by omega) (by omega)
            rw [hp] at rd
            obtain ⟨p, hpp⟩ : ∃ p, p = (L.drop a).take 100 := ⟨_, rfl⟩
            rw [← hpp] at rd hgp
            have SP := fun W => slice_piece g off i sc a hi (by omega) (by omega) hcap W
            have hmin : min ((a : Int) + 100) (i : Int) = (hi : Int) := by rw [hhi]; omega
            have OF1 := Lib.hid (OFG.out wr (B0r.out.trans (hb2.mono zr)) _ p rd hgp)
            have htl := Xo.text_len p hgp
            have hml := recs_len (pieces L k) (fun q hq => pieces_good HRI.out k q hq)
            rw [pieces_length] at hml
            have hmm : m = (Fr.laid (recsOf (pieces L k))).length := by have := sb.1; rw [cb_length] at this; omega
            obtain ⟨ba, bc, rfl⟩ := sb.slice
            have AP := Lib.hid (fun W (s : Sl W wo.heap.size 1 (.slice ba m bc) m (cb (Fr.laid (recsOf (pieces L k))))) => show Calls Tryd.prog 6 #[.slice ba m bc, .agg #[.int .u8 4, .string (bs (Xo.text p))]] W (Appended W (Fr.laid (recsOf (pieces L k)) ++ Fr.rec 4 (Xo.text p))) from append_any wo.heap.size ba m bc _ 4 (Xo.text p) W s (by omega))
            have HLS := laid_succ L k
            rw [← hak, ← hpp] at HLS
            obtain ⟨X, hX⟩ : ∃ X, X = Fr.laid (recsOf (pieces L k)) ++ Fr.rec 4 (Xo.text p) := ⟨_, rfl⟩
            rw [← hX] at AP HLS
            have HLS := Lib.hid HLS
            obtain ⟨T, hTt⟩ : ∃ T, T = bs (Xo.text p) := ⟨_, rfl⟩
            rw [← hTt] at OF1 AP
            have hlt' : (a : Int) < i := by omega
            have HAK := Lib.hid hak
            clear hp rd hgp hpp htl hml hmm hTt hak hhi hX
            go_wp2_with fail
            refine OF1.out.mono ?_
            rintro e w3 ⟨rfl, b3⟩
            have sb3 := sb.on b3
            go_wp2_with fail
            refine (AP.out _ sb3).mono ?_
            rintro e w4 ⟨a4, c4, rfl, s4, b4⟩
            have hb4 := Lib.hid ((hb2.trans (b3.mono zz)).trans (b4.mono (Nat.le_trans zz b3.size)))
            have s4 := s4.mono (base' := wo.heap.size) (Nat.le_trans zz b3.size)
            go_wp2
            exact ⟨⟨k + 1, a + 100, _, by go_num, by have := HAK.out; omega, by omega, by rw [HLS.out]; exact s4, hb4.out⟩, by simp [RowKit.intOf]; omega⟩
          · have hpl : ∀ q ∈ pieces L k, Xo.Good q ∧ 0 < q.length := fun q hq => by
              refine ⟨pieces_good HRI.out k q hq, ?_⟩
              obtain ⟨j, hj, rfl⟩ := List.mem_map.1 hq
              have hj := List.mem_range.1 hj
              have := HLL.out
              rw [List.length_take, List.length_drop]
              omega
            have hfl : (pieces L k).flatten = L := by
              rw [pieces_flat, List.take_of_length_le]
              have := HLL.out
              omega
            have CK := CHK.out wr (B0r.out.trans (hb2.mono zr)) (pieces L k) hpl (by rw [hfl]; exact HRI.out) (by rw [pieces_length]; omega)
            rw [hfl, HLL.out] at CK
            have CK := Lib.hid CK
            have cv := text_conv sb
            have HAK := Lib.hid hak
            obtain ⟨T, hT⟩ : ∃ T, T = bs (Fr.laid (recsOf (pieces L k))) := ⟨_, rfl⟩
            rw [← hT] at CK cv
            have BB := Lib.hid (B0r.out.trans (hb2.mono zr))
            have LR := Lib.hid (LL.out.on hb2)
            have hlt' : ¬ (a : Int) < i := by omega
            clear sb hpl hfl hT hak
            go_wp2_with fail
            refine CK.out.mono ?_
            rintro e w5 ⟨gv, rfl, s5, b5⟩
            obtain ⟨ga, gc, rfl⟩ := s5.slice
            have L5 := Lib.hid (LR.out.on b5)
            have B5 := Lib.hid (BB.out.trans (b5.mono BB.out.size))
            have S5 := Lib.hid s5
            clear s5 b5 hb2
            go_wp2_with fail
            go_loopw [100] (fun j' wr => ∃ (c q : Nat), j' = .int .i64 c ∧ c ≤ i ∧ wr = w5.drewN q) (fun j' _ => i - (RowKit.intOf j').toNat)
            case atStart => exact ⟨0, 0, rfl, by omega, rfl⟩
            case round =>
              obtain ⟨c, q, rfl, hc, rfl⟩ := hrel
              by_cases hlc : c < i
              · obtain ⟨s1, s2, hkd⟩ : ∃ s1 s2, L[c]? = some (s1, s2) := ⟨_, _, List.getElem?_eq_getElem (by have := HLL.out; omega)⟩
                obtain ⟨g1, o1, rfl⟩ : ∃ g off, ga = some ⟨g, off, none⟩ := by
                  rcases S5.out.2 with ⟨h0, _⟩ | ⟨g, off, cap', he, _⟩
                  · cases h0; omega
                  · cases he; exact ⟨g, off, rfl⟩
                obtain ⟨g2, o2, rfl⟩ : ∃ g off, sa = some ⟨g, off, none⟩ := by
                  rcases L5.out.2 with ⟨h0, _⟩ | ⟨g, off, cap', he, _⟩
                  · cases h0; omega
                  · cases he; exact ⟨g, off, rfl⟩
                obtain ⟨p0, p1⟩ := smF_cells S5.out c s1 s2 hkd
                obtain ⟨q0, q1⟩ := smF_cells L5.out c s1 s2 hkd
                have i1 : (c : Int) < (i : Int) := by omega
                have i2 : (0 : Int) ≤ (c : Int) := by omega
                clear hkd
                go_wp2
                go_quiet (fail)
                go_wp2
                exact ⟨⟨c + 1, _, by go_num, by omega, rfl⟩, by simp [RowKit.intOf]; omega⟩
              · have hkn : c = i := by omega
                subst hkn
                go_wp2
                go_ret
                exact ⟨rfl, below_draw B5.out _⟩
  · have hcs : n < 0 ∨ (¬ n < 0 ∧ 400 < n) ∨ (¬ n < 0 ∧ ¬ 400 < n ∧ step < 1) ∨ (¬ n < 0 ∧ ¬ 400 < n ∧ ¬ step < 1 ∧ 1048576 < step) := by omega
    clear hv hT hn hs hnb hsb hok
    rcases hcs with h1 | ⟨h1, h2⟩ | ⟨h1, h2, h3⟩ | ⟨h1, h2, h3, h4⟩ <;>
    · go_enter Tryd.func3, Tryd.ntmps3
      go_wp2_with fail
      refine (LV.out _).mono ?_
      rintro e w1 ⟨rfl, b1⟩
      go_wp2_with fail
      refine (LV.out _).mono ?_
      rintro e w2 ⟨rfl, b2⟩
      go_wp2
      go_ret
      exact ⟨rfl, b1.trans (b2.mono b1.size)⟩
end Go.Proofs.YtajkleknjjpldaaDoor

/- Layer 20, the document's own Free, walked. -/
import Derived.Test.YtkialkjhjenkhaaMPLW
namespace Go.Proofs.Ytkialkjhjenkhaa
open Go.RowKit Go.Lib
set_option linter.unusedVariables false

theorem less20n : ∀ (a b : List UInt8), Op.bytesLess a b = true ↔ a < b
  | [], [] => by simp [Op.bytesLess]
  | [], _ :: _ => by simp [Op.bytesLess]
  | _ :: _, [] => by simp [Op.bytesLess]
  | x :: a, y :: b => by
    rw [Op.bytesLess, List.cons_lt_cons_iff]
    simp [less20n a b]
theorem small4 (nn : Nat) (h : nn ≤ 2000) : nn + 1 ≤ maxLen ∧ (nn + 1) * 104 ≤ 140737488355328 ∧ nn + 1 + 1 ≤ maxLen ∧ (nn + 1 + 1) * 104 ≤ 140737488355328 := by
  unfold maxLen
  omega
theorem oneCell8 (nm : List UInt8) (x0 x1 x2 x3 x4 : Int) (af a7 : Option Addr) (nf kf n k7 : Nat) : ∀ u ∈ #[Value.string (bs nm), .int .i64 x0, .int .i64 x1, .int .i64 x2, .int .i64 x3, .int .i64 x4, .slice af nf kf, .slice a7 n k7].toList, u.oneCell' = true := by
  intro u hu
  simp only [List.mem_cons, List.not_mem_nil, or_false] at hu
  rcases hu with rfl | rfl | rfl | rfl | rfl | rfl | rfl | rfl <;> rfl
set_option maxHeartbeats 20000000 in
set_option maxRecDepth 100000 in
theorem rfree_any (at' : Int) (v : Value) (ts : List (Mq × Int)) (w : World) (h : TsR w v ts) (hm : ts.length ≤ 1000) :
    Calls Try.prog 15 #[.agg #[.int .i64 at', v]] w fun e w' => ∃ v', e = .returned v' ∧ Sl w' w.heap.size 8 v' (freeT ts ts).length (msc (freeT ts ts)) ∧ Below w.heap.size w w' := by
  obtain ⟨i3, hi, hz0, hz1, hz2⟩ := info_parts zc_rmet
  have Mz := Lib.hid hz0; have Ms := Lib.hid hz1; have Mb := Lib.hid hz2; have Mi := Lib.hid hi
  clear hz0 hz1 hz2 hi
  have HH := Lib.hid h
  obtain ⟨_, ad, cap, g, off, rfl, hg, hc⟩ := h.rd
  have HQ := Lib.hid (fun W (bb : Below w.heap.size w W) i p (hp : ts[i]? = some p) (h0 : 0 < ts.length) => tq_at hc bb (hg h0).2 i p hp)
  have HG := Lib.hid hg
  have hm' := hm
  obtain ⟨N, hN⟩ : ∃ N, N = ts.length := ⟨_, rfl⟩
  have HN := Lib.hid hN
  have MD := Lib.hid (fun W (bb : Below w.heap.size w W) y => made10_any at' (.slice ad ts.length cap) y ts W (h.on bb) hm)
  rw [← hN] at hm HG MD ⊢
  clear hN h hg hc hm'
  have BA := Lib.hid (show Below w.heap.size w (w.alloc (.cells #[.int .i64 at', .slice ad N cap] 29)) from (Below.refl _ _).alloc (Nat.le_refl _) _)
  have SA := Lib.hid (show (w.alloc (.cells #[.int .i64 at', .slice ad N cap] 29)).heap.size = w.heap.size + 1 by simp)
  have LX := Lib.hid (fun W (bb : Below (w.alloc (.cells #[.int .i64 at', .slice ad N cap] 29)).heap.size (w.alloc (.cells #[.int .i64 at', .slice ad N cap] 29)) W) => show W.heap[w.heap.size]? = some (.cells #[.int .i64 at', .slice ad N cap] 29) from (bb.block _ (by rw [SA.out]; omega)).trans (heap_alloc_new w (.cells #[.int .i64 at', .slice ad N cap] 29)))
  have S0 := Lib.hid (show Sl ((w.alloc (.cells #[.int .i64 at', .slice ad N cap] 29)).alloc (.cells #[] 67)) (w.alloc (.cells #[.int .i64 at', .slice ad N cap] 29)).heap.size 8 (.slice (some ⟨w.heap.size + 1, 0, none⟩) 0 0) 0 [] from Sl.litAt (w.alloc (.cells #[.int .i64 at', .slice ad N cap] 29)) (w.heap.size + 1) SA.out (w.alloc (.cells #[.int .i64 at', .slice ad N cap] 29)).heap.size 8 0 #[] 67 (Nat.le_refl _) (by decide) rfl)
  have lx0 := Lib.cell_of_heap (LX.out ((w.alloc (.cells #[.int .i64 at', .slice ad N cap] 29)).alloc (.cells #[] 67)) ((Below.refl _ _).alloc (Nat.le_refl _) _)) 1
  go_enter Try.func15, Try.ntmps15
  go_wp2_with fail
  go_loopw [3, 14] (fun v3 i' wr => ∃ (i n : Nat), i' = .int .i64 i ∧ i ≤ N ∧ Hid (n = (freeT ts (ts.take i)).length) ∧ Sl wr (w.alloc (.cells #[.int .i64 at', .slice ad N cap] 29)).heap.size 8 v3 n (msc (freeT ts (ts.take i))) ∧ Below (w.alloc (.cells #[.int .i64 at', .slice ad N cap] 29)).heap.size (w.alloc (.cells #[.int .i64 at', .slice ad N cap] 29)) wr) (fun _ i' _ => N - (RowKit.intOf i').toNat)
  case atStart => exact ⟨0, 0, rfl, Nat.zero_le _, rfl, S0.out, (Below.refl _ _).alloc (Nat.le_refl _) _⟩
  case round =>
    clear S0 lx0
    obtain ⟨W0, rfl⟩ : ∃ W0, W0 = wr := ⟨_, rfl⟩
    obtain ⟨i, n, rfl, hi, hn, hs, hb⟩ := hrel
    have hbz := hb.size
    rw [SA.out] at hbz
    have BW := Lib.hid (show Below w.heap.size w W0 from BA.out.trans (hb.mono (by rw [SA.out]; omega)))
    by_cases hlt : i < N
    · obtain ⟨rfl, hgl⟩ := HG.out (by omega)
      have hil : (i : Int) < N := by omega
      have hiw : IntKind.i64.wrap ((i : Int) + 1) = (i : Int) + 1 := IntWalk.i64_in _ (by omega)
      obtain ⟨p, hp⟩ : ∃ p, ts[i]? = some p := ⟨_, List.getElem?_eq_getElem (by have := HN.out; omega)⟩
      have mq := (HH.out.ok p (List.mem_of_getElem? hp)).on BW.out
      have hqq := HQ.out W0 BW.out i p hp (by have := HN.out; omega)
      have HTK := Lib.hid (show freeT ts (ts.take (i + 1)) = if liveT ts p then insQ p.1 (freeT ts (ts.take i)) else freeT ts (ts.take i) by
        rw [List.take_add_one, hp]; exact freeT_snoc ts (ts.take i) p)
      obtain ⟨⟨m, vf, vs⟩, mk⟩ := p
      replace mq : MeR W0 m vf vs := mq
      obtain ⟨af, kf, rfl⟩ := rd_form mq.1
      obtain ⟨a3, ks, rfl⟩ := rd_form mq.2.1
      obtain ⟨nf, hnf⟩ : ∃ nf, nf = m.files.length := ⟨_, rfl⟩
      obtain ⟨ns, hns⟩ : ∃ ns, ns = m.src.length := ⟨_, rfl⟩
      rw [← hnf, ← hns] at hqq HTK
      obtain ⟨⟨q0, q1, q2, q3, q4, q5, q6, q7⟩, q8⟩ := hqq
      simp only at q0 q1 q2 q3 q4 q5 q6 q7 q8 HTK
      have hlv : liveT ts (⟨m, .slice af nf kf, .slice a3 ns ks⟩, mk) = (decide (mk < 0) && decide (madeN m.id ts = 0)) := rfl
      rw [hlv] at HTK
      have HX := Lib.hid (heap_alloc_new W0 (.cells #[.string (bs m.id), .int .i64 m.mn, .int .i64 m.mx, .int .i64 m.lv, .int .i64 m.se, .int .i64 m.sa, .slice af nf kf, .slice a3 ns ks, .int .i64 mk] 70))
      obtain ⟨e0, e1, e2, e3, e4, e5, e6, e7, e8⟩ := cells9 HX.out
      have B1 := Lib.hid (show Below (w.alloc (.cells #[.int .i64 at', .slice (some ⟨g, off, none⟩) N cap] 29)).heap.size (w.alloc (.cells #[.int .i64 at', .slice (some ⟨g, off, none⟩) N cap] 29)) (W0.alloc (.cells #[.string (bs m.id), .int .i64 m.mn, .int .i64 m.mx, .int .i64 m.lv, .int .i64 m.se, .int .i64 m.sa, .slice af nf kf, .slice a3 ns ks, .int .i64 mk] 70)) from hb.alloc (by rw [SA.out]; omega) _)
      have lx1 := Lib.cell_of_heap (LX.out _ B1.out) 0; have lx2 := Lib.cell_of_heap (LX.out _ B1.out) 1
      have S1 := Lib.hid (hs.alloc (.cells #[.string (bs m.id), .int .i64 m.mn, .int .i64 m.mx, .int .i64 m.lv, .int .i64 m.se, .int .i64 m.sa, .slice af nf kf, .slice a3 ns ks, .int .i64 mk] 70))
      have hni : n ≤ i := by rw [hn.out]; exact Nat.le_trans (freeT_len _ _) (by rw [List.length_take]; omega)
      have hS0 := Lib.hid hs
      clear hs hb mq hnf hns hlv
      by_cases hk : mk < 0
      · have hk' : ¬ (0 ≤ mk) := by omega
        have hk2 : decide (0 ≤ mk) = false := decide_eq_false hk'
        have MC := Lib.hid (MD.out _ (BA.out.trans (B1.out.mono (by rw [SA.out]; omega))) m.id)
        obtain ⟨M, hM⟩ : ∃ M, M = madeN m.id ts := ⟨_, rfl⟩
        rw [← hM] at MC HTK
        by_cases hM0 : M = 0
        · rw [show (decide (mk < 0) && decide (M = 0)) = true by simp [hk, hM0], if_pos rfl] at HTK
          clear hM
          subst hM0
          obtain ⟨aO, kO, rfl⟩ := hS0.out.slice
          obtain ⟨O, hO⟩ : ∃ O, O = freeT ts (ts.take i) := ⟨_, rfl⟩
          rw [← hO] at HTK
          have HO := Lib.hid hO
          have OS := Lib.hid (show MsR W0 (.slice aO n kO) O from ⟨by have h9 := Rd.of_sl hS0.out; rw [hn.out] at h9 ⊢; rw [hO]; exact h9, fun q hq => by
            rw [hO] at hq
            obtain ⟨p', hp', _, rfl⟩ := (freeT_in ts _ q).1 hq
            exact (HH.out.ok p' (List.mem_of_mem_take hp')).on BW.out⟩)
          have hnO := Lib.hid (show n = O.length from by rw [hO]; exact hn.out)
          clear hO
          go_wp2_with (first
            | (go_at_call 30; (with_reducible refine MC.out.mono ?_); rintro e w3 ⟨rfl, b3⟩; have B3 := Lib.hid b3; clear b3 lx1 lx2 e0 e1 e2 e3 e4 e5 e6 e7 e8)
            | fail)
          have hz3 := B3.out.size
          have hzb : (W0.alloc (.cells #[.string (bs m.id), .int .i64 m.mn, .int .i64 m.mx, .int .i64 m.lv, .int .i64 m.se, .int .i64 m.sa, .slice af nf kf, .slice a3 ns ks, .int .i64 mk] 70)).heap.size = W0.heap.size + 1 := by simp
          rw [hzb] at hz3
          have BX3 := Lib.hid (fun W (bb : Below w3.heap.size w3 W) => (bb.block W0.heap.size (by omega)).trans ((B3.out.block W0.heap.size (by rw [hzb]; omega)).trans HX.out))
          have B03 := Lib.hid (show Below W0.heap.size W0 w3 from ((Below.refl _ _).alloc (Nat.le_refl _) _).trans (B3.out.mono (by rw [hzb]; omega)))
          have HQO := Lib.hid (fun W (bb : Below w3.heap.size w3 W) k q (hq : O[k]? = some q) => show ∃ g off, aO = some ⟨g, off, none⟩ ∧ MqAt W g (off + k * 8) q from by
            obtain ⟨_, ad', cap', g', off', e, hg', hc'⟩ := OS.out.rd
            have h0 : 0 < O.length := by have := (List.getElem?_eq_some_iff.1 hq).1; omega
            obtain ⟨e1, hlt'⟩ := hg' h0
            have e2 : aO = ad' := by injection e
            exact ⟨g', off', e2.trans e1, mq_at hc' (B03.out.trans (bb.mono B03.out.size)) hlt' k q hq⟩)
          have SN0 := Lib.hid (show Sl (w3.alloc (.cells #[] 67)) w3.heap.size 8 (.slice (some ⟨w3.heap.size, 0, none⟩) 0 0) 0 [] from Sl.litAt w3 w3.heap.size rfl w3.heap.size 8 0 #[] 67 (Nat.le_refl _) (by decide) rfl)
          have hn1000 : n ≤ 1000 := by omega
          clear hzb
          go_loopw [6, 7, 32] (fun v6 d' k' wr => ∃ (k nn : Nat) (d : Bool) (nx : List Mq), k' = .int .i64 k ∧ d' = .bool d ∧ k ≤ n ∧ Hid (nn = nx.length) ∧ Hid (insQ (⟨m, .slice af nf kf, .slice a3 ns ks⟩ : Mq) O = insJ (⟨m, .slice af nf kf, .slice a3 ns ks⟩ : Mq) nx d (O.drop k)) ∧ Sl wr w3.heap.size 8 v6 nn (msc nx) ∧ Below w3.heap.size w3 wr) (fun _ _ k' _ => n - (RowKit.intOf k').toNat)
          case atStart => exact ⟨0, 0, false, [], rfl, rfl, Nat.zero_le _, rfl, Lib.hid (by simp [insJ]), SN0.out, (Below.refl _ _).alloc (Nat.le_refl _) _⟩
          case round =>
            clear SN0
            obtain ⟨W1, rfl⟩ : ∃ W1, W1 = wr := ⟨_, rfl⟩
            obtain ⟨k, nn, d, nx, rfl, rfl, hk9, hnn, hJ, hs, hb⟩ := hrel
            have hz1 := hb.size
            have bx := BX3.out W1 hb
            by_cases hkl : k < n
            · have hkil : (k : Int) < n := by omega
              have hkw : IntKind.i64.wrap ((k : Int) + 1) = (k : Int) + 1 := IntWalk.i64_in _ (by omega)
              obtain ⟨q, hq⟩ : ∃ q, O[k]? = some q := ⟨_, List.getElem?_eq_getElem (by have := hnO.out; omega)⟩
              have hdr : O.drop k = q :: O.drop (k + 1) := by
                obtain ⟨hlt', he⟩ := List.getElem?_eq_some_iff.1 hq
                rw [List.drop_eq_getElem_cons hlt', he]
              have JJ := Lib.hid (show insQ (⟨m, .slice af nf kf, .slice a3 ns ks⟩ : Mq) O = insJ (⟨m, .slice af nf kf, .slice a3 ns ks⟩ : Mq) nx d (q :: O.drop (k + 1)) from by rw [hJ.out, hdr])
              have mq := ((OS.out.ok q (List.mem_of_getElem? hq)).on B03.out).on hb
              obtain ⟨g2, off2, rfl, hqq⟩ := HQO.out W1 hb k q hq
              have hnl : nn ≤ 2000 := by
                have h1 := congrArg List.length hJ.out
                rw [insQ_len] at h1
                unfold insJ at h1
                rw [List.length_append, ← hnn.out, ← hnO.out] at h1
                omega
              obtain ⟨y, vf, vs⟩ := q
              replace mq : MeR W1 y vf vs := mq
              obtain ⟨bf, kfy, rfl⟩ := rd_form mq.1
              obtain ⟨b3, ksy, rfl⟩ := rd_form mq.2.1
              obtain ⟨nfy, hnf⟩ : ∃ nf, nf = y.files.length := ⟨_, rfl⟩
              obtain ⟨nsy, hns⟩ : ∃ ns, ns = y.src.length := ⟨_, rfl⟩
              rw [← hnf, ← hns] at hqq JJ
              obtain ⟨q0, q1, q2, q3, q4, q5, q6, q7⟩ := hqq
              simp only at q0 q1 q2 q3 q4 q5 q6 q7
              obtain ⟨a6, k6, rfl⟩ := hs.slice
              have SN1 := Lib.hid (hs.alloc (.cells #[.string (bs y.id), .int .i64 y.mn, .int .i64 y.mx, .int .i64 y.lv, .int .i64 y.se, .int .i64 y.sa, .slice bf nfy kfy, .slice b3 nsy ksy] 67))
              have SNL := Lib.hid (fun k hk => (hs.lt k hk).2)
              have HC := Lib.hid (heap_alloc_new W1 (.cells #[.string (bs y.id), .int .i64 y.mn, .int .i64 y.mx, .int .i64 y.lv, .int .i64 y.se, .int .i64 y.sa, .slice bf nfy kfy, .slice b3 nsy ksy] 67))
              have BC1 := Lib.hid (show Below w3.heap.size w3 ((W1.alloc (.cells #[.string (bs y.id), .int .i64 y.mn, .int .i64 y.mx, .int .i64 y.lv, .int .i64 y.se, .int .i64 y.sa, .slice bf nfy kfy, .slice b3 nsy ksy] 67))) from hb.alloc hz1 _)
              have bx1 := (Below.heap_alloc W1 (.cells #[.string (bs y.id), .int .i64 y.mn, .int .i64 y.mx, .int .i64 y.lv, .int .i64 y.se, .int .i64 y.sa, .slice bf nfy kfy, .slice b3 nsy ksy] 67) W0.heap.size (by omega)).trans bx
              obtain ⟨e0, e1, e2, e3, e4, e5, e6, e7, e8⟩ := cells9 bx1
              obtain ⟨f0, f1, f2, f3, f4, f5, f6, f7⟩ := cells8 HC.out
              obtain ⟨hn4, hn5, hn6, hn7⟩ := small4 nn hnl
              clear hs hb mq hq hdr hnf hns bx bx1 hJ
              cases d
              · by_cases hlt1 : m.mn < y.mn
                · have HLT := Lib.hid (show ltM ((⟨m, .slice af nf kf, .slice a3 ns ks⟩ : Mq)).m (⟨y, .slice bf nfy kfy, .slice b3 nsy ksy⟩ : Mq).m from .inl hlt1)
                  go_wp2_with (first
                    | (at_builtin; go_loud (refine wpList_append_sl2 _ rfl _ _ 36 rfl w3.heap.size 67 i3 (.agg #[.string ⟨#[]⟩, .int .i64 0, .int .i64 0, .int .i64 0, .int .i64 0, .int .i64 0, .slice none 0 0, .slice none 0 0]) 8 104 Try.underlying36 Mi.out Mz.out Ms.out Mb.out rfl (by decide) _ nn _ rfl (SN1.out.alloc _) _ _ 1 _ rfl (Sl.litAt (W1.alloc (.cells #[.string (bs y.id), .int .i64 y.mn, .int .i64 y.mx, .int .i64 y.lv, .int .i64 y.se, .int .i64 y.sa, .slice bf nfy kfy, .slice b3 nsy ksy] 67)) (W1.heap.size + 1) (by simp) w3.heap.size 8 1 #[.string (bs m.id), .int .i64 m.mn, .int .i64 m.mx, .int .i64 m.lv, .int .i64 m.se, .int .i64 m.sa, .slice af nf kf, .slice a3 ns ks] 67 (by simp; omega) (by decide) rfl) (oneCell8 _ _ _ _ _ _ _ _ _ _ _ _) hn4 hn5 (by simp; omega) ?_; intro v5 w5 x5; obtain ⟨a5, k5, rfl⟩ := x5.now.slice; have X5 := Lib.hid x5; have Z5 := Lib.hid (show w3.heap.size ≤ w5.heap.size from by have := x5.grown.size; simp at this; omega); have cx := (x5.grown.block W1.heap.size (by simp; omega) (fun e => by have := SNL.out _ e.symm; omega)).trans ((Below.heap_alloc (W1.alloc (.cells #[.string (bs y.id), .int .i64 y.mn, .int .i64 y.mx, .int .i64 y.lv, .int .i64 y.se, .int .i64 y.sa, .slice bf nfy kfy, .slice b3 nsy ksy] 67)) _ W1.heap.size (by simp)).trans HC.out); have x0 := Lib.cell_of_heap cx 0; have x1 := Lib.cell_of_heap cx 1; have x2 := Lib.cell_of_heap cx 2; have x3 := Lib.cell_of_heap cx 3; have x4 := Lib.cell_of_heap cx 4; have x5' := Lib.cell_of_heap cx 5; have x6 := Lib.cell_of_heap cx 6; have x7 := Lib.cell_of_heap cx 7; clear x5 cx))
                    | (at_builtin; go_loud (refine wpList_append_sl2 _ rfl _ _ 36 rfl w3.heap.size 67 i3 (.agg #[.string ⟨#[]⟩, .int .i64 0, .int .i64 0, .int .i64 0, .int .i64 0, .int .i64 0, .slice none 0 0, .slice none 0 0]) 8 104 Try.underlying36 Mi.out Mz.out Ms.out Mb.out rfl (by decide) _ (nn + 1) _ rfl (X5.out.now.alloc _) _ _ 1 _ rfl (Sl.litAt w5 w5.heap.size rfl w3.heap.size 8 1 #[.string (bs y.id), .int .i64 y.mn, .int .i64 y.mx, .int .i64 y.lv, .int .i64 y.se, .int .i64 y.sa, .slice bf nfy kfy, .slice b3 nsy ksy] 67 (by have := Z5.out; omega) (by decide) rfl) (oneCell8 _ _ _ _ _ _ _ _ _ _ _ _) hn6 hn7 (by have := Z5.out; simp; omega) ?_; intro v7 w7 x7'; obtain ⟨a7, k7, rfl⟩ := x7'.now.slice; have X7 := Lib.hid x7'; clear x7'))
                    | fail)
                  have bb := X5.out.below (B := w3.heap.size) (Nat.le_refl _) (by simp; omega)
                  have bb2 := X7.out.below (B := w3.heap.size) (Nat.le_refl _) (by have := Z5.out; simp; omega)
                  have bz := ((BC1.out.alloc BC1.out.size _).trans bb).alloc Z5.out (.cells #[.string (bs y.id), .int .i64 y.mn, .int .i64 y.mx, .int .i64 y.lv, .int .i64 y.se, .int .i64 y.sa, .slice bf nfy kfy, .slice b3 nsy ksy] 67)
                  exact ⟨⟨k + 1, nn + 1 + 1, true, nx ++ [⟨m, .slice af nf kf, .slice a3 ns ks⟩] ++ [⟨y, .slice bf nfy kfy, .slice b3 nsy ksy⟩], by simp, rfl, by omega, Lib.hid (by rw [List.length_append, List.length_append, ← hnn.out]; rfl), Lib.hid (by rw [JJ.out]; exact insJ_yes _ _ _ _ HLT.out), by rw [msc_append, msc_append]; exact X7.out.now, bz.trans bb2⟩, by simp [RowKit.intOf]; omega⟩
                · by_cases heq : m.mn = y.mn
                  · have heq2 : (m.mn == y.mn) = true := by simp [heq]
                    by_cases hid : m.id < y.id
                    · have HLT := Lib.hid (show ltM ((⟨m, .slice af nf kf, .slice a3 ns ks⟩ : Mq)).m (⟨y, .slice bf nfy kfy, .slice b3 nsy ksy⟩ : Mq).m from .inr ⟨heq, hid⟩)
                      have hl1 := (less20n m.id y.id).2 hid
                      have hl2 : Op.bytesLess (bs m.id).toList (bs y.id).toList = true := by rw [show (bs m.id).toList = m.id by simp [bs], show (bs y.id).toList = y.id by simp [bs]]; exact hl1
                      clear heq hid
                      go_wp2_with (first
                        | (at_builtin; go_loud (refine wpList_append_sl2 _ rfl _ _ 36 rfl w3.heap.size 67 i3 (.agg #[.string ⟨#[]⟩, .int .i64 0, .int .i64 0, .int .i64 0, .int .i64 0, .int .i64 0, .slice none 0 0, .slice none 0 0]) 8 104 Try.underlying36 Mi.out Mz.out Ms.out Mb.out rfl (by decide) _ nn _ rfl (SN1.out.alloc _) _ _ 1 _ rfl (Sl.litAt (W1.alloc (.cells #[.string (bs y.id), .int .i64 y.mn, .int .i64 y.mx, .int .i64 y.lv, .int .i64 y.se, .int .i64 y.sa, .slice bf nfy kfy, .slice b3 nsy ksy] 67)) (W1.heap.size + 1) (by simp) w3.heap.size 8 1 #[.string (bs m.id), .int .i64 m.mn, .int .i64 m.mx, .int .i64 m.lv, .int .i64 m.se, .int .i64 m.sa, .slice af nf kf, .slice a3 ns ks] 67 (by simp; omega) (by decide) rfl) (oneCell8 _ _ _ _ _ _ _ _ _ _ _ _) hn4 hn5 (by simp; omega) ?_; intro v5 w5 x5; obtain ⟨a5, k5, rfl⟩ := x5.now.slice; have X5 := Lib.hid x5; have Z5 := Lib.hid (show w3.heap.size ≤ w5.heap.size from by have := x5.grown.size; simp at this; omega); have cx := (x5.grown.block W1.heap.size (by simp; omega) (fun e => by have := SNL.out _ e.symm; omega)).trans ((Below.heap_alloc (W1.alloc (.cells #[.string (bs y.id), .int .i64 y.mn, .int .i64 y.mx, .int .i64 y.lv, .int .i64 y.se, .int .i64 y.sa, .slice bf nfy kfy, .slice b3 nsy ksy] 67)) _ W1.heap.size (by simp)).trans HC.out); have x0 := Lib.cell_of_heap cx 0; have x1 := Lib.cell_of_heap cx 1; have x2 := Lib.cell_of_heap cx 2; have x3 := Lib.cell_of_heap cx 3; have x4 := Lib.cell_of_heap cx 4; have x5' := Lib.cell_of_heap cx 5; have x6 := Lib.cell_of_heap cx 6; have x7 := Lib.cell_of_heap cx 7; clear x5 cx))
                        | (at_builtin; go_loud (refine wpList_append_sl2 _ rfl _ _ 36 rfl w3.heap.size 67 i3 (.agg #[.string ⟨#[]⟩, .int .i64 0, .int .i64 0, .int .i64 0, .int .i64 0, .int .i64 0, .slice none 0 0, .slice none 0 0]) 8 104 Try.underlying36 Mi.out Mz.out Ms.out Mb.out rfl (by decide) _ (nn + 1) _ rfl (X5.out.now.alloc _) _ _ 1 _ rfl (Sl.litAt w5 w5.heap.size rfl w3.heap.size 8 1 #[.string (bs y.id), .int .i64 y.mn, .int .i64 y.mx, .int .i64 y.lv, .int .i64 y.se, .int .i64 y.sa, .slice bf nfy kfy, .slice b3 nsy ksy] 67 (by have := Z5.out; omega) (by decide) rfl) (oneCell8 _ _ _ _ _ _ _ _ _ _ _ _) hn6 hn7 (by have := Z5.out; simp; omega) ?_; intro v7 w7 x7'; obtain ⟨a7, k7, rfl⟩ := x7'.now.slice; have X7 := Lib.hid x7'; clear x7'))
                        | fail)
                      have bb := X5.out.below (B := w3.heap.size) (Nat.le_refl _) (by simp; omega)
                      have bb2 := X7.out.below (B := w3.heap.size) (Nat.le_refl _) (by have := Z5.out; simp; omega)
                      have bz := ((BC1.out.alloc BC1.out.size _).trans bb).alloc Z5.out (.cells #[.string (bs y.id), .int .i64 y.mn, .int .i64 y.mx, .int .i64 y.lv, .int .i64 y.se, .int .i64 y.sa, .slice bf nfy kfy, .slice b3 nsy ksy] 67)
                      exact ⟨⟨k + 1, nn + 1 + 1, true, nx ++ [⟨m, .slice af nf kf, .slice a3 ns ks⟩] ++ [⟨y, .slice bf nfy kfy, .slice b3 nsy ksy⟩], by simp, rfl, by omega, Lib.hid (by rw [List.length_append, List.length_append, ← hnn.out]; rfl), Lib.hid (by rw [JJ.out]; exact insJ_yes _ _ _ _ HLT.out), by rw [msc_append, msc_append]; exact X7.out.now, bz.trans bb2⟩, by simp [RowKit.intOf]; omega⟩
                    · have HLT := Lib.hid (show ¬ ltM ((⟨m, .slice af nf kf, .slice a3 ns ks⟩ : Mq)).m (⟨y, .slice bf nfy kfy, .slice b3 nsy ksy⟩ : Mq).m from fun h => h.elim (fun h => hlt1 h) (fun h => hid h.2))
                      have hl1 : Op.bytesLess m.id y.id = false := by
                        cases hbl : Op.bytesLess m.id y.id
                        · rfl
                        · exact absurd ((less20n m.id y.id).1 hbl) hid
                      have hl2 : Op.bytesLess (bs m.id).toList (bs y.id).toList = false := by rw [show (bs m.id).toList = m.id by simp [bs], show (bs y.id).toList = y.id by simp [bs]]; exact hl1
                      clear heq hid
                      go_wp2_with (first
                        | (at_builtin; go_loud (refine wpList_append_sl2 _ rfl _ _ 36 rfl w3.heap.size 67 i3 (.agg #[.string ⟨#[]⟩, .int .i64 0, .int .i64 0, .int .i64 0, .int .i64 0, .int .i64 0, .slice none 0 0, .slice none 0 0]) 8 104 Try.underlying36 Mi.out Mz.out Ms.out Mb.out rfl (by decide) _ nn _ rfl (SN1.out.alloc _) _ _ 1 _ rfl (Sl.litAt (W1.alloc (.cells #[.string (bs y.id), .int .i64 y.mn, .int .i64 y.mx, .int .i64 y.lv, .int .i64 y.se, .int .i64 y.sa, .slice bf nfy kfy, .slice b3 nsy ksy] 67)) (W1.heap.size + 1) (by simp) w3.heap.size 8 1 #[.string (bs y.id), .int .i64 y.mn, .int .i64 y.mx, .int .i64 y.lv, .int .i64 y.se, .int .i64 y.sa, .slice bf nfy kfy, .slice b3 nsy ksy] 67 (by simp; omega) (by decide) rfl) (oneCell8 _ _ _ _ _ _ _ _ _ _ _ _) hn4 hn5 (by simp; omega) ?_; intro v5 w5 x5; obtain ⟨a5, k5, rfl⟩ := x5.now.slice; have X5 := Lib.hid x5; clear x5))
                        | fail)
                      have bb := X5.out.below (B := w3.heap.size) (Nat.le_refl _) (by simp; omega)
                      exact ⟨⟨k + 1, nn + 1, false, nx ++ [⟨y, .slice bf nfy kfy, .slice b3 nsy ksy⟩], by simp, rfl, by omega, Lib.hid (by rw [List.length_append, ← hnn.out]; rfl), Lib.hid (by rw [JJ.out]; exact insJ_no _ _ _ _ HLT.out), by rw [msc_append]; exact X5.out.now, (BC1.out.alloc BC1.out.size _).trans bb⟩, by simp [RowKit.intOf]; omega⟩
                  · have heq2 : (m.mn == y.mn) = false := by simp [heq]
                    have HLT := Lib.hid (show ¬ ltM ((⟨m, .slice af nf kf, .slice a3 ns ks⟩ : Mq)).m (⟨y, .slice bf nfy kfy, .slice b3 nsy ksy⟩ : Mq).m from fun h => h.elim (fun h => hlt1 h) (fun h => heq h.1))
                    clear heq
                    go_wp2_with (first
                      | (at_builtin; go_loud (refine wpList_append_sl2 _ rfl _ _ 36 rfl w3.heap.size 67 i3 (.agg #[.string ⟨#[]⟩, .int .i64 0, .int .i64 0, .int .i64 0, .int .i64 0, .int .i64 0, .slice none 0 0, .slice none 0 0]) 8 104 Try.underlying36 Mi.out Mz.out Ms.out Mb.out rfl (by decide) _ nn _ rfl (SN1.out.alloc _) _ _ 1 _ rfl (Sl.litAt (W1.alloc (.cells #[.string (bs y.id), .int .i64 y.mn, .int .i64 y.mx, .int .i64 y.lv, .int .i64 y.se, .int .i64 y.sa, .slice bf nfy kfy, .slice b3 nsy ksy] 67)) (W1.heap.size + 1) (by simp) w3.heap.size 8 1 #[.string (bs y.id), .int .i64 y.mn, .int .i64 y.mx, .int .i64 y.lv, .int .i64 y.se, .int .i64 y.sa, .slice bf nfy kfy, .slice b3 nsy ksy] 67 (by simp; omega) (by decide) rfl) (oneCell8 _ _ _ _ _ _ _ _ _ _ _ _) hn4 hn5 (by simp; omega) ?_; intro v5 w5 x5; obtain ⟨a5, k5, rfl⟩ := x5.now.slice; have X5 := Lib.hid x5; clear x5))
                      | fail)
                    have bb := X5.out.below (B := w3.heap.size) (Nat.le_refl _) (by simp; omega)
                    exact ⟨⟨k + 1, nn + 1, false, nx ++ [⟨y, .slice bf nfy kfy, .slice b3 nsy ksy⟩], by simp, rfl, by omega, Lib.hid (by rw [List.length_append, ← hnn.out]; rfl), Lib.hid (by rw [JJ.out]; exact insJ_no _ _ _ _ HLT.out), by rw [msc_append]; exact X5.out.now, (BC1.out.alloc BC1.out.size _).trans bb⟩, by simp [RowKit.intOf]; omega⟩
              · go_wp2_with (first
                  | (at_builtin; go_loud (refine wpList_append_sl2 _ rfl _ _ 36 rfl w3.heap.size 67 i3 (.agg #[.string ⟨#[]⟩, .int .i64 0, .int .i64 0, .int .i64 0, .int .i64 0, .int .i64 0, .slice none 0 0, .slice none 0 0]) 8 104 Try.underlying36 Mi.out Mz.out Ms.out Mb.out rfl (by decide) _ nn _ rfl (SN1.out.alloc _) _ _ 1 _ rfl (Sl.litAt (W1.alloc (.cells #[.string (bs y.id), .int .i64 y.mn, .int .i64 y.mx, .int .i64 y.lv, .int .i64 y.se, .int .i64 y.sa, .slice bf nfy kfy, .slice b3 nsy ksy] 67)) (W1.heap.size + 1) (by simp) w3.heap.size 8 1 #[.string (bs y.id), .int .i64 y.mn, .int .i64 y.mx, .int .i64 y.lv, .int .i64 y.se, .int .i64 y.sa, .slice bf nfy kfy, .slice b3 nsy ksy] 67 (by simp; omega) (by decide) rfl) (oneCell8 _ _ _ _ _ _ _ _ _ _ _ _) hn4 hn5 (by simp; omega) ?_; intro v5 w5 x5; obtain ⟨a5, k5, rfl⟩ := x5.now.slice; have X5 := Lib.hid x5; clear x5))
                  | fail)
                have bb := X5.out.below (B := w3.heap.size) (Nat.le_refl _) (by simp; omega)
                exact ⟨⟨k + 1, nn + 1, true, nx ++ [⟨y, .slice bf nfy kfy, .slice b3 nsy ksy⟩], by simp, rfl, by omega, Lib.hid (by rw [List.length_append, ← hnn.out]; rfl), Lib.hid (by rw [JJ.out]; exact insJ_done _ _ _ _), by rw [msc_append]; exact X5.out.now, (BC1.out.alloc BC1.out.size _).trans bb⟩, by simp [RowKit.intOf]; omega⟩
            · have hkil : ¬ (k : Int) < n := by omega
              have hkn : O.drop k = [] := by
                rw [List.drop_eq_nil_iff]; have := hnO.out; omega
              have hJ1 := hJ.out
              rw [hkn] at hJ1
              have BWF := Lib.hid (show Below (w.alloc (.cells #[.int .i64 at', .slice (some ⟨g, off, none⟩) N cap] 29)).heap.size (w.alloc (.cells #[.int .i64 at', .slice (some ⟨g, off, none⟩) N cap] 29)) W1 from bel_monoP (bel_monoP B1.out B3.out) hb)
              have hzw : (w.alloc (.cells #[.int .i64 at', .slice (some ⟨g, off, none⟩) N cap] 29)).heap.size ≤ w3.heap.size := Nat.le_trans B1.out.size B3.out.size
              have HZW := Lib.hid hzw
              have hlt9 : i + 1 ≤ N := hlt
              have hdec : N - (i + 1) < N - i := by omega
              obtain ⟨a6, k6, rfl⟩ := hs.slice
              have hnl : nn ≤ 2000 := by
                have h1 := congrArg List.length hJ.out
                rw [insQ_len] at h1
                unfold insJ at h1
                rw [List.length_append, ← hnn.out, ← hnO.out] at h1
                omega
              obtain ⟨e0, e1, e2, e3, e4, e5, e6, e7, e8⟩ := cells9 bx
              obtain ⟨hn4, hn5, -, -⟩ := small4 nn hnl
              have HS1 := Lib.hid hs
              have HB1 := Lib.hid hb
              clear hkn hzw hs bx hJ hb
              cases d
              · have HF := Lib.hid (show freeT ts (ts.take (i + 1)) = nx ++ [(⟨m, .slice af nf kf, .slice a3 ns ks⟩ : Mq)] from by rw [HTK.out, hJ1]; simp [insJ, insQ])
                clear hJ1
                go_wp2_with (first
                  | (at_builtin; go_loud (refine wpList_append_sl2 _ rfl _ _ 36 rfl w3.heap.size 67 i3 (.agg #[.string ⟨#[]⟩, .int .i64 0, .int .i64 0, .int .i64 0, .int .i64 0, .int .i64 0, .slice none 0 0, .slice none 0 0]) 8 104 Try.underlying36 Mi.out Mz.out Ms.out Mb.out rfl (by decide) _ nn _ rfl (HS1.out.alloc _) _ _ 1 _ rfl (Sl.litAt W1 W1.heap.size rfl w3.heap.size 8 1 #[.string (bs m.id), .int .i64 m.mn, .int .i64 m.mx, .int .i64 m.lv, .int .i64 m.se, .int .i64 m.sa, .slice af nf kf, .slice a3 ns ks] 67 hz1 (by decide) rfl) (oneCell8 _ _ _ _ _ _ _ _ _ _ _ _) hn4 hn5 (by simp; omega) ?_; intro v5 w5 x5; obtain ⟨a5, k5, rfl⟩ := x5.now.slice; have X5 := Lib.hid x5; clear x5))
                  | fail)
                have bb := X5.out.below (B := w3.heap.size) (Nat.le_refl _) (by simp; omega)
                have b9 := (HB1.out.alloc HB1.out.size _).trans bb
                exact ⟨⟨i + 1, nn + 1, by simp, hlt9, Lib.hid (by rw [HF.out, List.length_append, ← hnn.out]; rfl), by rw [HF.out, msc_append]; exact X5.out.now.mono HZW.out, bel_monoP (bel_monoP B1.out B3.out) b9⟩, by simp [RowKit.intOf]; omega⟩
              · have HF := Lib.hid (show freeT ts (ts.take (i + 1)) = nx from by rw [HTK.out, hJ1]; simp [insJ])
                clear hJ1
                go_wp2_with fail
                exact ⟨⟨i + 1, nn, by simp, hlt9, Lib.hid (by rw [HF.out]; exact hnn.out), by rw [HF.out]; exact HS1.out.mono HZW.out, BWF.out⟩, by simp [RowKit.intOf]; omega⟩
        · rw [show (decide (mk < 0) && decide (M = 0)) = false by simp [hM0], if_neg (by decide)] at HTK
          have hM1 : (0 : Int) < (M : Int) := by omega
          clear hM hM0
          go_wp2_with (first
            | (go_at_call 30; (with_reducible refine MC.out.mono ?_); rintro e w3 ⟨rfl, b3⟩; have B3 := Lib.hid b3; clear b3)
            | fail)
          exact ⟨⟨i + 1, n, by simp, by omega, Lib.hid (by rw [HTK.out]; exact hn.out), by rw [HTK.out]; exact S1.out.on B3.out, bel_monoP B1.out B3.out⟩, by simp [RowKit.intOf]; omega⟩
      · have hk' : 0 ≤ mk := by omega
        have hk2 : decide (0 ≤ mk) = true := decide_eq_true hk'
        rw [show (decide (mk < 0) && decide (madeN m.id ts = 0)) = false by simp [hk], if_neg (by decide)] at HTK
        go_wp2_with fail
        exact ⟨⟨i + 1, n, by simp, by omega, Lib.hid (by rw [HTK.out]; exact hn.out), by rw [HTK.out]; exact S1.out, B1.out⟩, by simp [RowKit.intOf]; omega⟩
    · have hil : ¬ (i : Int) < N := by omega
      have hiN : i = N := by omega
      have hall : freeT ts (ts.take i) = freeT ts ts := by rw [hiN, HN.out, List.take_length]
      rw [hall] at hs hn
      have HS := Lib.hid hs
      have hhn := Lib.hid hn.out
      clear hs hb hiN hall hn
      go_wp2_with fail
      go_ret
      exact ⟨_, rfl, by rw [← hhn.out]; exact HS.out.mono (by rw [SA.out]; omega), BW.out⟩
end Go.Proofs.Ytkialkjhjenkhaa

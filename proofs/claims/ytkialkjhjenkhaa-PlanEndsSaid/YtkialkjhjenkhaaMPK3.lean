/- Layer 20: same, of plans that are the same. Layer 20: the plan that the program says, and the document's: one list of blocks says both. -/
import Derived.Test.YtkialkjhjenkhaaMPK2
import Derived.Test.YtkialkjhjenkhaaMMR
import Derived.Test.YtkialkjhjenkhaaMPLQ
namespace Go.Proofs.Ytkialkjhjenkhaa
open Go.RowKit Go.Lib
set_option linter.unusedVariables false

theorem cell_at {w : World} {b : Nat} {cs : Array Value} {T : TypeId} {f : Nat × Nat} (h : w.heap[b]? = some (.cells cs T f)) (k : Nat) {x : Value} (hx : cs[k]? = some x) : w.cell? ⟨b, k, none⟩ = some x := (Lib.cell_of_heap h k).trans hx
set_option maxHeartbeats 8000000 in
set_option maxRecDepth 100000 in
theorem psame_any (fr to lv : Int) (v v' : Value) (s s2 : List Mq) (w : World) (h : MsR w v s) (h2 : MsR w v' s2) (hm : s.map Mq.m = s2.map Mq.m) (hl : s.length ≤ 1000) :
    Calls Try.prog 11 #[planV fr to lv v, planV fr to lv v'] w fun e w' => e = .returned (.bool true) ∧ Below w.heap.size w w' := by
  have hlen : s2.length = s.length := by have := congrArg List.length hm; simpa using this.symm
  have HH := Lib.hid h; have H2 := Lib.hid h2; have HM := Lib.hid hm
  obtain ⟨_, ap, cp, gp, op, rfl, hgp, hcp⟩ := h.rd
  obtain ⟨_, ax, cx, gx, ox, rfl, hgx, hcx⟩ := h2.rd
  have HQ := Lib.hid (fun W (bb : Below w.heap.size w W) i q (hq : s[i]? = some q) (h0 : 0 < s.length) => mq_at hcp bb (hgp h0).2 i q hq)
  have HX := Lib.hid (fun W (bb : Below w.heap.size w W) i q (hq : s2[i]? = some q) (h0 : 0 < s2.length) => mq_at hcx bb (hgx h0).2 i q hq)
  have HGP := Lib.hid hgp; have HGX := Lib.hid hgx
  clear h h2 hgp hcp hgx hcx hm
  obtain ⟨N, hN⟩ : ∃ N, N = s.length := ⟨_, rfl⟩
  have HN := Lib.hid hN
  have HN2 := Lib.hid hlen
  rw [hlen]
  rw [← hN] at hl ⊢
  clear hN hlen
  unfold planV
  have R0 := Lib.hid (show ((w.alloc (.cells #[.int .i64 fr, .int .i64 to, .int .i64 lv, .slice ap N cp] 33)).alloc (.cells #[.int .i64 fr, .int .i64 to, .int .i64 lv, .slice ax N cx] 38)).heap[w.heap.size]? = some (.cells #[.int .i64 fr, .int .i64 to, .int .i64 lv, .slice ap N cp] 33) ∧ Below w.heap.size w ((w.alloc (.cells #[.int .i64 fr, .int .i64 to, .int .i64 lv, .slice ap N cp] 33)).alloc (.cells #[.int .i64 fr, .int .i64 to, .int .i64 lv, .slice ax N cx] 38)) from box_two w _ _)
  go_enter Try.func11, Try.ntmps11
  go_wp2_with fail
  go_loopw [38] (fun i' wr => ∃ i : Nat, i' = .int .i64 i ∧ i ≤ N ∧ Hid (wr.heap[w.heap.size]? = some (.cells #[.int .i64 fr, .int .i64 to, .int .i64 lv, .slice ap N cp] 33)) ∧ Below w.heap.size w wr) (fun i' _ => N - (RowKit.intOf i').toNat)
  case atStart => exact ⟨0, rfl, Nat.zero_le _, Lib.hid R0.out.1, R0.out.2⟩
  case round =>
    clear R0
    obtain ⟨W0, rfl⟩ : ∃ W0, W0 = wr := ⟨_, rfl⟩
    obtain ⟨i, rfl, hi, hpb, hb⟩ := hrel
    by_cases hlt : i < N
    · have hil : (i : Int) < N := by omega
      have hil0 : (0 : Int) ≤ i := by omega
      have hiw : IntKind.i64.wrap ((i : Int) + 1) = (i : Int) + 1 := IntWalk.i64_in _ (by omega)
      obtain ⟨q, hq⟩ : ∃ q, s[i]? = some q := ⟨_, List.getElem?_eq_getElem (by have := HN.out; omega)⟩
      obtain ⟨q2, hq2⟩ : ∃ q, s2[i]? = some q := ⟨_, List.getElem?_eq_getElem (by have := HN.out; have := HN2.out; omega)⟩
      have hqm : q2.m = q.m := by
        have e1 : (s.map Mq.m)[i]? = some q.m := by rw [List.getElem?_map, hq]; rfl
        have e2 : (s2.map Mq.m)[i]? = some q2.m := by rw [List.getElem?_map, hq2]; rfl
        rw [HM.out, e2] at e1
        exact Option.some.inj e1
      have mq0 := HH.out.ok q (List.mem_of_getElem? hq)
      have mx0 := H2.out.ok q2 (List.mem_of_getElem? hq2)
      obtain ⟨m, vf, vs⟩ := q
      obtain ⟨m2, vf2, vs2⟩ := q2
      simp only at hqm
      subst hqm
      replace mq0 : MeR w m2 vf vs := mq0
      replace mx0 : MeR w m2 vf2 vs2 := mx0
      obtain ⟨m, hmm⟩ : ∃ m, m = m2 := ⟨_, rfl⟩
      subst hmm
      obtain ⟨af, kf, rfl⟩ := rd_form mq0.1
      obtain ⟨az, kz, rfl⟩ := rd_form mq0.2.1
      obtain ⟨af2, kf2, rfl⟩ := rd_form mx0.1
      obtain ⟨az2, ks2, rfl⟩ := rd_form mx0.2.1
      obtain ⟨rfl, hgl⟩ := HGP.out (by have := HN.out; omega)
      obtain ⟨rfl, hxl⟩ := HGX.out (by have := HN.out; have := HN2.out; omega)
      have hqq := fun W (bb : Below w.heap.size w W) => HQ.out W bb i _ hq (by have := HN.out; omega)
      have hxx := HX.out W0 hb i _ hq2 (by have := HN.out; have := HN2.out; omega)
      have TD0 := fun W (hh : MeR W m (.slice af m.files.length kf) (.slice az m.src.length kz)) => told9_any m _ _ W hh
      have SA0 := fun vf W (h1 : MeR W m vf (.slice az m.src.length kz)) (h2 : MeR W m (.slice af2 m.files.length kf2) (.slice az2 m.src.length ks2)) => same9_refl m _ _ _ _ W h1 h2
      unfold ToldP at TD0
      unfold meV at TD0 SA0
      have MQ := Lib.hid mq0; have MX := Lib.hid mx0
      obtain ⟨nf, hnf⟩ : ∃ nf, nf = m.files.length := ⟨_, rfl⟩
      obtain ⟨ns, hns⟩ : ∃ ns, ns = m.src.length := ⟨_, rfl⟩
      rw [← hnf, ← hns] at MQ MX TD0 SA0 hxx
      unfold MqAt at hqq
      simp only at hqq
      rw [← hnf, ← hns] at hqq
      have TD := Lib.hid TD0; have SA := Lib.hid SA0
      have HNF := Lib.hid hnf
      obtain ⟨x0, x1, x2, x3, x4, x5, x6, x7⟩ := hxx
      simp only at x0 x1 x2 x3 x4 x5 x6 x7
      have hz0 : w.heap.size < W0.heap.size := (Array.getElem?_eq_some_iff.1 hpb.out).1
      have SX := Lib.hid (fun W (b : Below (W0.alloc (.cells #[.string (bs m.id), .int .i64 m.mn, .int .i64 m.mx, .int .i64 m.lv, .int .i64 m.se, .int .i64 m.sa, .slice af2 nf kf2, .slice az2 ns ks2] 67)).heap.size (W0.alloc (.cells #[.string (bs m.id), .int .i64 m.mn, .int .i64 m.mx, .int .i64 m.lv, .int .i64 m.se, .int .i64 m.sa, .slice af2 nf kf2, .slice az2 ns ks2] 67)) W) => show W.cell? ⟨w.heap.size, 3, none⟩ = some (.slice (some ⟨gp, op, none⟩) N cp) ∧ W.cell? ⟨gp, op + i * 8, none⟩ = some (.string (bs m.id)) ∧ W.cell? ⟨gp, op + i * 8 + 1, none⟩ = some (.int .i64 m.mn) ∧ W.cell? ⟨gp, op + i * 8 + 2, none⟩ = some (.int .i64 m.mx) ∧ W.cell? ⟨gp, op + i * 8 + 3, none⟩ = some (.int .i64 m.lv) ∧ W.cell? ⟨gp, op + i * 8 + 4, none⟩ = some (.int .i64 m.se) ∧ W.cell? ⟨gp, op + i * 8 + 5, none⟩ = some (.int .i64 m.sa) ∧ W.cell? ⟨gp, op + i * 8 + 6, none⟩ = some (.slice af nf kf) ∧ W.cell? ⟨gp, op + i * 8 + 7, none⟩ = some (.slice az ns kz) ∧ W.cell? ⟨W0.heap.size, 0, none⟩ = some (.string (bs m.id)) ∧ W.cell? ⟨W0.heap.size, 1, none⟩ = some (.int .i64 m.mn) ∧ W.cell? ⟨W0.heap.size, 2, none⟩ = some (.int .i64 m.mx) ∧ W.cell? ⟨W0.heap.size, 3, none⟩ = some (.int .i64 m.lv) ∧ W.cell? ⟨W0.heap.size, 4, none⟩ = some (.int .i64 m.se) ∧ W.cell? ⟨W0.heap.size, 5, none⟩ = some (.int .i64 m.sa) ∧ W.cell? ⟨W0.heap.size, 6, none⟩ = some (.slice af2 nf kf2) ∧ W.cell? ⟨W0.heap.size, 7, none⟩ = some (.slice az2 ns ks2) from by
        have e1 := (b.block w.heap.size (by simp; omega)).trans ((Below.heap_alloc W0 (.cells #[.string (bs m.id), .int .i64 m.mn, .int .i64 m.mx, .int .i64 m.lv, .int .i64 m.se, .int .i64 m.sa, .slice af2 nf kf2, .slice az2 ns ks2] 67) w.heap.size hz0).trans hpb.out)
        have e2 := (b.block W0.heap.size (by simp)).trans (heap_alloc_new W0 (.cells #[.string (bs m.id), .int .i64 m.mn, .int .i64 m.mx, .int .i64 m.lv, .int .i64 m.se, .int .i64 m.sa, .slice af2 nf kf2, .slice az2 ns ks2] 67))
        obtain ⟨y0, y1, y2, y3, y4, y5, y6, y7⟩ := hqq W ((hb.alloc hb.size (.cells #[.string (bs m.id), .int .i64 m.mn, .int .i64 m.mx, .int .i64 m.lv, .int .i64 m.se, .int .i64 m.sa, .slice af2 nf kf2, .slice az2 ns ks2] 67)).trans (b.mono (by simp; have := hb.size; omega)))
        exact ⟨Lib.cell_of_heap e1 3, y0, y1, y2, y3, y4, y5, y6, y7, cells8 e2⟩)
      have BW := Lib.hid (fun W (b : Below (W0.alloc (.cells #[.string (bs m.id), .int .i64 m.mn, .int .i64 m.mx, .int .i64 m.lv, .int .i64 m.se, .int .i64 m.sa, .slice af2 nf kf2, .slice az2 ns ks2] 67)).heap.size (W0.alloc (.cells #[.string (bs m.id), .int .i64 m.mn, .int .i64 m.mx, .int .i64 m.lv, .int .i64 m.se, .int .i64 m.sa, .slice af2 nf kf2, .slice az2 ns ks2] 67)) W) => show Below w.heap.size w W ∧ W.heap[w.heap.size]? = some (.cells #[.int .i64 fr, .int .i64 to, .int .i64 lv, .slice (some ⟨gp, op, none⟩) N cp] 33) from
        ⟨(hb.alloc hb.size (.cells #[.string (bs m.id), .int .i64 m.mn, .int .i64 m.mx, .int .i64 m.lv, .int .i64 m.se, .int .i64 m.sa, .slice af2 nf kf2, .slice az2 ns ks2] 67)).trans (b.mono (by simp; have := hb.size; omega)), (b.block w.heap.size (by simp; omega)).trans ((Below.heap_alloc W0 (.cells #[.string (bs m.id), .int .i64 m.mn, .int .i64 m.mx, .int .i64 m.lv, .int .i64 m.se, .int .i64 m.sa, .slice af2 nf kf2, .slice az2 ns ks2] 67) w.heap.size hz0).trans hpb.out)⟩)
      have B0 := Below.refl (W0.alloc (.cells #[.string (bs m.id), .int .i64 m.mn, .int .i64 m.mx, .int .i64 m.lv, .int .i64 m.se, .int .i64 m.sa, .slice af2 nf kf2, .slice az2 ns ks2] 67)).heap.size (W0.alloc (.cells #[.string (bs m.id), .int .i64 m.mn, .int .i64 m.mx, .int .i64 m.lv, .int .i64 m.se, .int .i64 m.sa, .slice af2 nf kf2, .slice az2 ns ks2] 67))
      have BX := Lib.cell_of_heap hpb.out 3
      have hpx := Lib.hid hpb.out
      clear hq hq2 mq0 mx0 hqq TD0 SA0 hnf hns hpb hz0 BX hlt hi
      go_upto_region 6 with fail
      have BQ := B0.drew
      clear x0 x1 x2 x3 x4 x5 x6 x7
      go_region_held3 (fun W => W.cell? ⟨w.heap.size, 3, none⟩ = some (.slice (some ⟨gp, op, none⟩) N cp) ∧ W.cell? ⟨gp, op + i * 8, none⟩ = some (.string (bs m.id)) ∧ W.cell? ⟨gp, op + i * 8 + 1, none⟩ = some (.int .i64 m.mn) ∧ W.cell? ⟨gp, op + i * 8 + 2, none⟩ = some (.int .i64 m.mx) ∧ W.cell? ⟨gp, op + i * 8 + 3, none⟩ = some (.int .i64 m.lv) ∧ W.cell? ⟨gp, op + i * 8 + 4, none⟩ = some (.int .i64 m.se) ∧ W.cell? ⟨gp, op + i * 8 + 5, none⟩ = some (.int .i64 m.sa) ∧ W.cell? ⟨gp, op + i * 8 + 6, none⟩ = some (.slice af nf kf) ∧ W.cell? ⟨gp, op + i * 8 + 7, none⟩ = some (.slice az ns kz) ∧ W.cell? ⟨W0.heap.size, 0, none⟩ = some (.string (bs m.id)) ∧ W.cell? ⟨W0.heap.size, 1, none⟩ = some (.int .i64 m.mn) ∧ W.cell? ⟨W0.heap.size, 2, none⟩ = some (.int .i64 m.mx) ∧ W.cell? ⟨W0.heap.size, 3, none⟩ = some (.int .i64 m.lv) ∧ W.cell? ⟨W0.heap.size, 4, none⟩ = some (.int .i64 m.se) ∧ W.cell? ⟨W0.heap.size, 5, none⟩ = some (.int .i64 m.sa) ∧ W.cell? ⟨W0.heap.size, 6, none⟩ = some (.slice af2 nf kf2) ∧ W.cell? ⟨W0.heap.size, 7, none⟩ = some (.slice az2 ns ks2))
        (first | (with_reducible refine SX.out _ ?_; assumption) | (with_reducible assumption) | fail)
        (first
          | (go_at_call 20; (with_reducible refine (TD.out _ (MQ.out.on (BW.out _ BQ).1)).mono ?_); rintro e w10 ⟨v10, rfl, s10, b10⟩; have B10 := BQ.trans (b10.mono BQ.size); have R10 : MeR w10 m v10 (.slice az ns kz) := ⟨by have h9 := Rd.of_sl s10; rw [HNF.out] at h9; exact h9, (MQ.out.on (BW.out _ B10).1).2.1, MQ.out.2.2⟩)
          | (go_at_call 25; (with_reducible refine (SA.out _ _ R10 (MX.out.on (BW.out _ B10).1)).mono ?_); rintro e w12 ⟨rfl, b12⟩; have B12 := B10.trans (b12.mono B10.size))
          | fail)
      have HB12 := Lib.hid (BW.out _ B12)
      clear B12 b12 b10 B10 BQ B0
      go_wp2_with fail
      exact ⟨⟨i + 1, by simp, by omega, Lib.hid HB12.out.2, HB12.out.1⟩, by simp [RowKit.intOf]; omega⟩
    · have hil : ¬ (i : Int) < N := by omega
      have HB := Lib.hid hb
      clear hb hpb
      go_wp2_with fail
      go_ret
      exact ⟨rfl, HB.out⟩
end Go.Proofs.Ytkialkjhjenkhaa

namespace Go.Proofs.Ytkialkjhjenkhaa
open Go.RowKit Go.Lib
set_option linter.unusedVariables false

theorem scanQ_map (wd : Int) : ∀ (a b : List Mq), a.map Mq.m = b.map Mq.m → (scanQ wd a).map (List.map Mq.m) = (scanQ wd b).map (List.map Mq.m)
  | [], [], _ => rfl
  | [], q :: b, h => by simp at h
  | q :: a, [], h => by simp at h
  | p :: a, q :: b, h => by
    have h' := h
    rw [List.map_cons, List.map_cons, List.cons.injEq] at h
    have e := fstQ_map wd (p :: a) (q :: b) h'
    have e2 := fstQ_length wd (p :: a) (q :: b) h'
    unfold scanQ
    rw [e2]
    split
    · simp only [Option.map_some]; rw [e]
    · exact scanQ_map wd a b h.2
theorem scanQ_len (wd : Int) : ∀ (a s : List Mq), scanQ wd a = some s → s.length ≤ a.length
  | [], s, h => by cases h
  | p :: a, s, h => by
    unfold scanQ at h
    split at h
    · rw [← Option.some.inj h]; exact fstQ_len wd (p :: a)
    · have := scanQ_len wd a s h
      rw [List.length_cons]; omega
/-- The plan of sorted blocks: its blocks. -/
def scan2 (wd : Int) (F : List Mt.Me) : Option (List Mt.Me) := ((scanQ (3 * max wd 1) (F.map noQ)).or (scanQ (9 * max wd 1) (F.map noQ))).map (List.map Mq.m)
theorem scan2_of (wd : Int) (rs : List Mq) : ((scanQ (3 * max wd 1) rs).or (scanQ (9 * max wd 1) rs)).map (List.map Mq.m) = scan2 wd (rs.map Mq.m) := by
  have e : rs.map Mq.m = ((rs.map Mq.m).map noQ).map Mq.m := by rw [List.map_map]; simp [noQ, Function.comp_def]
  unfold scan2
  have e1 := scanQ_map (3 * max wd 1) rs ((rs.map Mq.m).map noQ) e
  have e2 := scanQ_map (9 * max wd 1) rs ((rs.map Mq.m).map noQ) e
  cases h1 : scanQ (3 * max wd 1) rs <;> cases h2 : scanQ (3 * max wd 1) ((rs.map Mq.m).map noQ) <;> rw [h1, h2] at e1 <;> simp_all
theorem scan2_len (wd : Int) (F S : List Mt.Me) (h : scan2 wd F = some S) : S.length ≤ F.length := by
  unfold scan2 at h
  obtain ⟨s, hs, rfl⟩ := Option.map_eq_some_iff.1 h
  rw [List.length_map]
  cases h1 : scanQ (3 * max wd 1) (F.map noQ) with
  | some t =>
    rw [h1] at hs
    have := scanQ_len _ _ _ h1
    rw [← Option.some.inj hs]
    simpa using this
  | none =>
    rw [h1] at hs
    have := scanQ_len _ _ s hs
    simpa using this
def frM (S : List Mt.Me) : Int := frQ (S.map noQ)
def toM (S : List Mt.Me) : Int := toQ (S.map noQ)
def lvM (S : List Mt.Me) : Int := min (lvQ (S.map noQ) + 1) 9
theorem toM_of (s : List Mq) : toQ s = toM (s.map Mq.m) := by unfold toM toQ; simp [List.foldl_map, noQ]
theorem lvM_of (s : List Mq) : min (lvQ s + 1) 9 = lvM (s.map Mq.m) := by unfold lvM lvQ; simp [List.foldl_map, noQ]
theorem frM_of (s : List Mq) (p0 : Mq) (h : s[0]? = some p0) : p0.m.mn = frM (s.map Mq.m) := by
  cases s with
  | nil => cases h
  | cons x l =>
    simp only [List.getElem?_cons_zero, Option.some.injEq] at h
    subst h
    rfl
theorem NextOut.some {w w' : World} {wd : Int} {rs : List Mq} {e : Ending} {F S : List Mt.Me} (h : NextOut w wd rs e w') (hF : rs.map Mq.m = F) (hs : scan2 wd F = some S) {a b c : Int} (ha : a = frM S) (hb : b = toM S) (hc : c = lvM S) :
    ∃ ad k s, e = .returned (.tuple #[.agg #[.int .i64 a, .int .i64 b, .int .i64 c, .slice ad S.length k], .bool true]) ∧ s.map Mq.m = S ∧ MsR w' (.slice ad S.length k) s := by
  rw [← hF, ← scan2_of] at hs
  rcases h with ⟨s, p0, v', h1, h2, rfl, h4⟩ | ⟨h1, rfl⟩
  · rw [h1] at hs
    simp only [Option.map_some, Option.some.injEq] at hs
    obtain ⟨ad, k, rfl⟩ := rd_form h4.rd
    have hl : s.length = S.length := by rw [← hs, List.length_map]
    rw [hl] at h4 ⊢
    refine ⟨ad, k, s, ?_, hs, h4⟩
    rw [ha, hb, hc, ← hs, frM_of s p0 h2, toM_of s, lvM_of s]
    rfl
  · rw [h1] at hs; cases hs
theorem NextOut.none {w w' : World} {wd : Int} {rs : List Mq} {e : Ending} {F : List Mt.Me} (h : NextOut w wd rs e w') (hF : rs.map Mq.m = F) (hs : scan2 wd F = none) :
    e = .returned (.tuple #[.agg #[.int .i64 0, .int .i64 0, .int .i64 0, .slice none 0 0], .bool false]) := by
  rw [← hF, ← scan2_of] at hs
  rcases h with ⟨s, p0, v', h1, h2, rfl, h4⟩ | ⟨h1, rfl⟩
  · rw [h1] at hs; cases hs
  · rfl
theorem pnx_some (v : Value) (t wd : Int) (qs : List Mq) (K : List (List UInt8)) (F S : List Mt.Me) (a b c : Int) (w : World) (h : LstR w v t qs K) (hup : UpQ qs) (hm : qs.length ≤ 1000) (hk : ∀ q ∈ qs, OkB q.m) (hw : wd ≤ 100000) (hF : FreeIs (qs.map Mq.m) K F) (hs : scan2 wd F = some S) (ha : a = frM S) (hb : b = toM S) (hc : c = lvM S) :
    Calls Try.prog 8 #[v, .int .i64 wd] w fun e w' => ∃ ad k s, e = .returned (.tuple #[.agg #[.int .i64 a, .int .i64 b, .int .i64 c, .slice ad S.length k], .bool true]) ∧ s.map Mq.m = S ∧ MsR w' (.slice ad S.length k) s ∧ Below w.heap.size w w' := by
  refine (plnext_any v t wd qs K w h hup hm hk hw).mono ?_
  rintro e w' ⟨rs, hfr, ho, b9⟩
  obtain ⟨ad, k, s, e1, e2, e3⟩ := ho.some (hfr.one hF) hs ha hb hc
  exact ⟨ad, k, s, e1, e2, e3, b9⟩
theorem pnx_none (v : Value) (t wd : Int) (qs : List Mq) (K : List (List UInt8)) (F : List Mt.Me) (w : World) (h : LstR w v t qs K) (hup : UpQ qs) (hm : qs.length ≤ 1000) (hk : ∀ q ∈ qs, OkB q.m) (hw : wd ≤ 100000) (hF : FreeIs (qs.map Mq.m) K F) (hs : scan2 wd F = none) :
    Calls Try.prog 8 #[v, .int .i64 wd] w fun e w' => e = .returned (.tuple #[.agg #[.int .i64 0, .int .i64 0, .int .i64 0, .slice none 0 0], .bool false]) ∧ Below w.heap.size w w' := by
  refine (plnext_any v t wd qs K w h hup hm hk hw).mono ?_
  rintro e w' ⟨rs, hfr, ho, b9⟩
  exact ⟨ho.none (hfr.one hF) hs, b9⟩
theorem rnx_some (at' : Int) (v : Value) (wd : Int) (ts : List (Mq × Int)) (F S : List Mt.Me) (a b c : Int) (w : World) (h : TsR w v ts) (hm : ts.length ≤ 1000) (hk : ∀ p ∈ ts, OkF p.1.m) (hw : wd ≤ 100000) (hF : (freeT ts ts).map Mq.m = F) (hsr : F.Pairwise ltM) (hs : scan2 wd F = some S) (ha : a = frM S) (hb : b = toM S) (hc : c = lvM S) :
    Calls Try.prog 9 #[.agg #[.int .i64 at', v], .int .i64 wd] w fun e w' => ∃ ad k s, e = .returned (.tuple #[.agg #[.int .i64 a, .int .i64 b, .int .i64 c, .slice ad S.length k], .bool true]) ∧ s.map Mq.m = S ∧ MsR w' (.slice ad S.length k) s ∧ Below w.heap.size w w' := by
  refine (rnext_any at' v wd ts w h hm hk (by rw [hF]; exact hsr) hw).mono ?_
  rintro e w' ⟨ho, b9⟩
  obtain ⟨ad, k, s, e1, e2, e3⟩ := ho.some hF hs ha hb hc
  exact ⟨ad, k, s, e1, e2, e3, b9⟩
theorem rnx_none (at' : Int) (v : Value) (wd : Int) (ts : List (Mq × Int)) (F : List Mt.Me) (w : World) (h : TsR w v ts) (hm : ts.length ≤ 1000) (hk : ∀ p ∈ ts, OkF p.1.m) (hw : wd ≤ 100000) (hF : (freeT ts ts).map Mq.m = F) (hsr : F.Pairwise ltM) (hs : scan2 wd F = none) :
    Calls Try.prog 9 #[.agg #[.int .i64 at', v], .int .i64 wd] w fun e w' => e = .returned (.tuple #[.agg #[.int .i64 0, .int .i64 0, .int .i64 0, .slice none 0 0], .bool false]) ∧ Below w.heap.size w w' := by
  refine (rnext_any at' v wd ts w h hm hk (by rw [hF]; exact hsr) hw).mono ?_
  rintro e w' ⟨ho, b9⟩
  exact ⟨ho.none hF hs, b9⟩
theorem okF_all (wd : Int) (hw : 1 ≤ wd ∧ wd ≤ 1000) (l : List Og) (i : Nat) (ts : List (Mq × Int)) (h : ts.map (fun p => p.1.m) = msO wd l i) : ∀ p ∈ ts, OkF p.1.m := by
  intro p hp
  have hm : p.1.m ∈ msO wd l i := by rw [← h]; exact List.mem_map_of_mem (f := fun p => p.1.m) hp
  unfold msO at hm
  obtain ⟨k, _, hk⟩ := List.mem_filterMap.1 hm
  obtain ⟨x, _, e⟩ := Option.map_eq_some_iff.1 hk
  rw [← e]
  exact ⟨okO wd hw k x, _, _, rfl⟩
/-- What Listing says, as PlanNext needs it. -/
structure NxI (w : World) (a9 : Option Addr) (n k9 mp : Nat) (a8 : Option Addr) (n8 k8 : Nat) (K : List (List UInt8)) (rs : List Mq) (ts : List (Mq × Int)) (F : List Mt.Me) : Prop where
  l : LstR w (.agg #[.int .i64 5, .slice a9 n k9, .map (some mp)]) 5 rs K
  up : UpQ rs
  ok : ∀ q ∈ rs, OkB q.m
  len : rs.length ≤ 20
  t : TsR w (.slice a8 n8 k8) ts
  tlen : ts.length ≤ 1000
  tok : ∀ p ∈ ts, OkF p.1.m
  free : FreeIs (rs.map Mq.m) K F
  tfree : (freeT ts ts).map Mq.m = F
  tom : rtomT (restT ts) (restT ts) = ids (tomQ K rs)
  fl : F.length ≤ 1000
theorem NxI.on {w w' : World} {a9 : Option Addr} {n k9 mp : Nat} {a8 : Option Addr} {n8 k8 : Nat} {K : List (List UInt8)} {rs : List Mq} {ts : List (Mq × Int)} {F : List Mt.Me} (h : NxI w a9 n k9 mp a8 n8 k8 K rs ts F) (b : Below w.heap.size w w') : NxI w' a9 n k9 mp a8 n8 k8 K rs ts F :=
  ⟨h.l.on b, h.up, h.ok, h.len, h.t.on b, h.tlen, h.tok, h.free, h.tfree, h.tom, h.fl⟩
theorem lst20_next (v : Value) (l : List Og) (wd : Int) (w : World) (h : Rd w 5 v l.length (ogc l)) (hw : 1 ≤ wd ∧ wd ≤ 1000) :
    Calls Try.prog 7 #[v, .int .i64 wd] w fun e w' => ∃ a9 k9 n mp a8 k8 n8 K rs ts F, e = .returned (.tuple #[.agg #[.int .i64 5, .slice a9 n k9, .map (some mp)], .agg #[.int .i64 5, .slice a8 n8 k8]]) ∧ NxI w' a9 n k9 mp a8 n8 k8 K rs ts F ∧ Below w.heap.size w w' := by
  refine (listing20_any v l wd w h hw).mono ?_
  rintro e w1 ⟨⟨lv, v8, rs, ts, rfl, hl, hrm, hv8, htm, htk, hto⟩, b1⟩
  obtain ⟨ms, mp, rfl, hm1, hm2⟩ := hl
  obtain ⟨a9, k9, rfl⟩ := rd_form hm1.rd
  obtain ⟨a8, k8, rfl⟩ := rd_form hv8
  have hlen : rs.length ≤ 12 := by
    have := congrArg List.length hrm
    rw [List.length_map, msO_len wd l _ (Nat.min_le_left _ _)] at this
    omega
  have htl : ts.length = min l.length 12 := by
    have := congrArg List.length htm
    rw [List.length_map, msO_len wd l _ (Nat.min_le_left _ _)] at this
    exact this
  obtain ⟨hu, hks⟩ := told_is wd l (min l.length 12) (Nat.min_le_left _ _) (by omega) ts htm htk
  have hne : ts.Pairwise (fun a b => a.1.m.id ≠ b.1.m.id) := hu.imp (fun {a b} h e => by rw [e] at h; exact bytes_lt_irrefl _ h)
  have hfr := freeT_is ts (ksO l (min l.length 12)) hne hks
  rw [htm, ← hrm] at hfr
  refine ⟨a9, k9, _, mp, a8, k8, _, _, rs, ts, _, rfl, ⟨⟨_, mp, rfl, hm1, hm2⟩, msO_up wd l _ (Nat.min_le_left _ _) (by omega) rs hrm, okO_all wd hw l _ rs hrm, by omega, ⟨by rw [htl]; exact hv8, hto⟩, by omega, okF_all wd hw l _ ts htm, hfr, rfl, (tom_told _ rs ts (htm.trans hrm.symm) hks).symm, ?_⟩, b1⟩
  rw [List.length_map]
  exact Nat.le_trans (freeT_len ts ts) (by omega)
theorem nx_boxes {w1 w2 w3 : World} {XO YO PO QO : Obj} (b2 : Below ((w1.alloc XO).alloc YO).heap.size ((w1.alloc XO).alloc YO) w2) (b3 : Below (w2.alloc PO).heap.size (w2.alloc PO) w3) :
    ∀ W, Below (w3.alloc QO).heap.size (w3.alloc QO) W → W.heap[w1.heap.size]? = some XO ∧ W.heap[w1.heap.size + 1]? = some YO ∧ W.heap[w2.heap.size]? = some PO ∧ W.heap[w3.heap.size]? = some QO ∧ Below w1.heap.size w1 W ∧ Below w2.heap.size w2 W ∧ Below w3.heap.size w3 W := by
  intro W bb
  have s1 : (w1.alloc XO).heap.size = w1.heap.size + 1 := by simp
  have s1' : ((w1.alloc XO).alloc YO).heap.size = w1.heap.size + 2 := by simp
  have s2 : (w2.alloc PO).heap.size = w2.heap.size + 1 := by simp
  have s3 : (w3.alloc QO).heap.size = w3.heap.size + 1 := by simp
  have z2 := b2.size
  have z3 := b3.size
  have y := heap_alloc_new (w1.alloc XO) YO
  rw [s1] at y
  have c3 : Below w3.heap.size w3 W := ((Below.refl _ _).alloc (Nat.le_refl _) QO).trans (bb.mono (by omega))
  have c2 : Below w2.heap.size w2 W := (((Below.refl _ _).alloc (Nat.le_refl _) PO).trans (b3.mono (by omega))).trans (c3.mono (by omega))
  have d2 : Below (w2.alloc PO).heap.size (w2.alloc PO) W := b3.trans (c3.mono z3)
  have d1 : Below ((w1.alloc XO).alloc YO).heap.size ((w1.alloc XO).alloc YO) W := b2.trans (c2.mono z2)
  have c1 : Below w1.heap.size w1 W := (((Below.refl _ _).alloc (Nat.le_refl _) XO).alloc (by omega) YO).trans (d1.mono (by omega))
  exact ⟨(d1.block _ (by omega)).trans ((Below.heap_alloc (w1.alloc XO) YO _ (by omega)).trans (heap_alloc_new w1 XO)), (d1.block _ (by omega)).trans y, (d2.block _ (by omega)).trans (heap_alloc_new w2 PO), (bb.block _ (by omega)).trans (heap_alloc_new w3 QO), c1, c2, c3⟩
theorem two_boxes {w1 W : World} {XO YO : Obj} (b : Below ((w1.alloc XO).alloc YO).heap.size ((w1.alloc XO).alloc YO) W) : W.heap[w1.heap.size]? = some XO ∧ W.heap[w1.heap.size + 1]? = some YO ∧ Below w1.heap.size w1 W := by
  have s1 : (w1.alloc XO).heap.size = w1.heap.size + 1 := by simp
  have s1' : ((w1.alloc XO).alloc YO).heap.size = w1.heap.size + 2 := by simp
  have y := heap_alloc_new (w1.alloc XO) YO
  rw [s1] at y
  exact ⟨(b.block _ (by omega)).trans ((Below.heap_alloc (w1.alloc XO) YO _ (by omega)).trans (heap_alloc_new w1 XO)), (b.block _ (by omega)).trans y, (((Below.refl _ _).alloc (Nat.le_refl _) XO).alloc (by omega) YO).trans (b.mono (by omega))⟩
end Go.Proofs.Ytkialkjhjenkhaa

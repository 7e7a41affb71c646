/- Layer 6: the document's Parse, walked. -/
import Derived.Test.YtmgnmppdeiflbaaDoorLW
namespace Go.Proofs.YtmgnmppdeiflbaaDoor
open Go.RowKit Go.Lib

/-- What the document's Parse answers. -/
def RPar (w : World) (s : List UInt8) (e : Ending) (w' : World) : Prop := ∃ v er, e = .returned (.tuple #[v, .int .i64 er]) ∧ Below w.heap.size w w' ∧
  match pairsL (parts 44 s) with
  | none => v = .slice none 0 0 ∧ er = 3
  | some ds => if chk (sortS ds) = true then er = 0 ∧ Sl w' w.heap.size 2 v (sortS ds).length (prc (sortS ds)) else v = .slice none 0 0 ∧ er = 12
theorem RPar.none {w w' : World} {s : List UInt8} {e : Ending} (hb : Below w.heap.size w w') (he : e = .returned (.tuple #[.slice .none 0 0, .int .i64 3])) (h : pgo s [] ⟨[], []⟩ false = .none) : RPar w s e w' := by
  refine ⟨_, _, he, hb, ?_⟩
  rw [← pgo_parts, h]
  exact ⟨rfl, rfl⟩
theorem RPar.no {w w' : World} {s : List UInt8} {e : Ending} {ds : List Pr} (hb : Below w.heap.size w w') (he : e = .returned (.tuple #[.slice .none 0 0, .int .i64 12])) (h : pgo s [] ⟨[], []⟩ false = some ds) (hc : chk (sortS ds) = false) : RPar w s e w' := by
  refine ⟨_, _, he, hb, ?_⟩
  rw [← pgo_parts, h]
  simp only [hc]
  exact ⟨by trivial, by trivial⟩
theorem RPar.ok {w w' : World} {s : List UInt8} {e : Ending} {ds : List Pr} {v : Value} (hb : Below w.heap.size w w') (he : e = .returned (.tuple #[v, .int .i64 0])) (h : pgo s [] ⟨[], []⟩ false = some ds) (hc : chk (sortS ds) = true) (hs : Sl w' w.heap.size 2 v (sortS ds).length (prc (sortS ds))) : RPar w s e w' := by
  refine ⟨_, _, he, hb, ?_⟩
  rw [← pgo_parts, h]
  simp only [hc, if_true]
  exact ⟨by trivial, hs⟩
theorem sl_off {w : World} {base size n : Nat} {v : Value} {xs : List Value} (h : Sl w base size v n xs) (P o : Nat) (u : Value) (hne : ∀ k, v.ownBlock = some k → k ≠ P) : Sl (w.setCell ⟨P, o, none⟩ u) base size v n xs :=
  h.same (by simp [World.setCell]) fun k hk => Below.heap_setCell w _ u k (hne k hk)
theorem extract_one (s : List UInt8) (i : Nat) (c : UInt8) (h : s.drop i = c :: s.drop (i + 1)) : (bs s).extract i (i + 1) = bs [c] := by
  have h1 : (bs s).extract i (i + 1) = bs ((s.drop i).take 1) := by
    have : bs s = ByteArray.mk s.toArray := rfl
    rw [this, ByteArray.extract_mk, bs, Nat.add_sub_cancel_left]
  rw [h1, h]; rfl

set_option maxHeartbeats 20000000 in
set_option maxRecDepth 100000 in
theorem rparse_any (s : List UInt8) (w : World) (hl : s.length ≤ 1000) :
    Calls Tryd.prog 22 #[.string (bs s)] w (RPar w s) := by
  obtain ⟨i0, hi, hz0, hz1, hz2⟩ := info_parts zc_rpair
  have Hz := Lib.hid hz0; have Hs := Lib.hid hz1; have Hb := Lib.hid hz2; have Hi := Lib.hid hi
  clear hz0 hz1 hz2 hi
  have hz : (bs s).size = s.length := bs_size s
  have hT := bs_toList
  have h61 : (ByteArray.mk #[61]).toList = [61] := bs_toList [61]
  obtain ⟨N, hN⟩ : ∃ N, N = s.length := ⟨_, rfl⟩
  rw [← hN] at hz hl
  have HN := Lib.hid hN
  clear hN
  go_enter Tryd.func22, Tryd.ntmps22
  go_wp2_with fail
  go_loopw [4, 6, 7] (fun l' e' i' wr => ∃ (i n lg lo lc : Nat) (l : List Pr) (x : Pr) (eq : Bool), i' = .int .i64 i ∧ i ≤ N + 1 ∧ e' = .bool eq ∧ l' = .slice (some ⟨lg, lo, none⟩) n lc ∧ n ≤ i ∧ Sl wr w.heap.size 2 (.slice (some ⟨lg, lo, none⟩) n lc) n (prc l) ∧ lg ≠ w.heap.size + 1 ∧ PBr (w.heap.size + 1) x wr ∧ x.n.length ≤ i ∧ x.v.length ≤ i ∧ Below w.heap.size w wr ∧ Hid (l.length = n) ∧ Hid (if i ≤ N then pgo s [] ⟨[], []⟩ false = pgo (s.drop i) l x eq else pgo s [] ⟨[], []⟩ false = some l)) (fun _ _ i' _ => N + 1 - (intOf i').toNat)
  case atStart =>
    refine ⟨0, 0, _, _, _, [], ⟨[], []⟩, false, rfl, by omega, rfl, rfl, by omega, (Sl.lit w w.heap.size 2 0 #[] _ (Nat.le_refl _) (by decide) rfl).alloc _, by omega, ?_, by simp, by simp, ((Below.refl _ _).alloc (Nat.le_refl _) _).alloc (by simp) _, rfl, by show ite _ _ _; rw [if_pos (by omega)]; rfl⟩
    have := heap_alloc_new (w.alloc (.cells #[] 54)) (.cells #[.string (bs []), .string (bs [])] 54)
    rw [World.size_alloc] at this
    exact this
  case round =>
    obtain ⟨W0, rfl⟩ : ∃ W0, W0 = wr := ⟨_, rfl⟩
    obtain ⟨i, n, lg, lo, lc, l, x, eq, rfl, hi, rfl, rfl, hni, hs, hlg, hp, hxn, hxv, hb, hll, hgo⟩ := hrel
    have HS := Lib.hid hs; have HP := Lib.hid hp; have HB := Lib.hid hb; have HLL := Lib.hid hll.out; have HGO := Lib.hid hgo.out
    have hbz := hb.size
    have p0 := hp.c0; have p1 := hp.c1; have f0 := hp.f 0; have f1 := hp.f 1
    have hpl := hp.lt
    have sn := bs_size x.n; have sv := bs_size x.v
    clear hs hp hb hll hgo
    by_cases hiN : i ≤ N
    · have hle : decide (i ≤ N) = true := by simp; omega
      have hle2 : (i : Int) ≤ N := by omega
      rcases Nat.lt_or_ge i N with hlt | hge
      · obtain ⟨c, hc⟩ : ∃ c, s.drop i = c :: s.drop (i + 1) := ⟨s[i]'(by have := HN.out; omega), by rw [List.drop_eq_getElem_cons]⟩
        have hg0 : ∀ h, (bs s)[i]'h = c := fun h => by
          have := list_at (bs s) i h
          rw [bs_list, hc] at this
          exact (List.cons.inj this).1.symm
        have hex := extract_one s i c hc
        have e1 : ((i : Int) == (N : Int)) = false := by rw [beq_eq_false_iff_ne]; omega
        have e2 : (i == N) = false := by rw [beq_eq_false_iff_ne]; omega
        have hlt2 : (i : Int) < N := by omega
        have HG1 := HGO.out
        rw [if_pos hiN, hc, pgo] at HG1
        have HG := Lib.hid HG1
        clear HG1 hc
        by_cases h44 : c = 44
        · have e3 : ((c.toNat : Int) == 44) = true := by rw [h44]; rfl
          have AFT := Lib.hid (fun (w5 : World) (g5 o5 c5 : Nat) (x5 : Ext w.heap.size 2 (W0.alloc (.cells #[.string (bs x.n), .string (bs x.v)] 54)) (.slice (some ⟨lg, lo, none⟩) n lc) n (prc l) w5 (.slice (some ⟨g5, o5, none⟩) (n + 1) c5) (n + 1) (prc l ++ [.string (bs x.n), .string (bs x.v)])) =>
            show g5 ≠ w.heap.size + 1 ∧ w5.cell? ⟨w.heap.size + 1, 0, none⟩ = some (.string (bs x.n)) ∧ w5.cell? ⟨w.heap.size + 1, 1, none⟩ = some (.string (bs x.v)) ∧ w5.frozen? ⟨w.heap.size + 1, 0, none⟩ = false ∧ w5.frozen? ⟨w.heap.size + 1, 1, none⟩ = false ∧ PBr (w.heap.size + 1) x w5 ∧ (Below w.heap.size w w5 ∧ Sl w5 w.heap.size 2 (.slice (some ⟨g5, o5, none⟩) (n + 1) c5) (n + 1) (prc (l ++ [x]))) from by
              have hP := HP.out.keep ((x5.grown.block (w.heap.size + 1) (by simp; omega) (fun e => hlg (Option.some.inj e).symm)).trans (Below.heap_alloc W0 _ (w.heap.size + 1) hpl))
              refine ⟨?_, hP.c0, hP.c1, hP.f 0, hP.f 1, hP, (HB.out.alloc hbz _).trans (x5.below (Nat.le_refl _) (by simp; omega)), by rw [prc_app]; exact x5.now⟩
              rcases x5.alias with ⟨a, cap, e1, e2, _⟩ | h
              · cases e1; cases e2; exact hlg
              · have := h g5 rfl
                simp at this
                omega)
          cases eq
          · have HGN := Lib.hid (show pgo s [] ⟨[], []⟩ false = none by rw [HG.out, if_pos h44]; rfl)
            clear HG AFT
            go_wp2_with fail
            go_ret2
            exact RPar.none HB.out rfl HGN.out
          · have HGN := Lib.hid (show if i + 1 ≤ N then pgo s [] ⟨[], []⟩ false = pgo (s.drop (i + 1)) (l ++ [x]) ⟨[], []⟩ false else pgo s [] ⟨[], []⟩ false = some (l ++ [x]) by rw [if_pos (by omega), HG.out, if_pos h44]; rfl)
            clear HG
            go_wp2_with (at_builtin; go_loud (refine wpList_append_sl _ rfl _ _ 29 rfl w.heap.size 54 i0 (.agg #[.string ⟨#[]⟩, .string ⟨#[]⟩]) 2 32 Tryd.underlying29 Hi.out Hz.out Hs.out Hb.out rfl (by decide) _ n _ rfl (HS.out.alloc _) ⟨W0.heap.size, 0, none⟩ 1 1 [_, _] rfl rfl (two_cells0 _ _ _ _) (by simp [Value.oneCell']) (by unfold maxLen; omega) (by omega) (by simp; omega) ?_; intro v5 w5 x5; obtain ⟨g5, o5, c5, rfl, -⟩ := x5.now.somewhere (by omega); have AB := AFT.out w5 g5 o5 c5 x5; obtain ⟨a1, a2, a3, a4, a5, a6, a7⟩ := AB))
            exact ⟨⟨i + 1, n + 1, g5, o5, c5, l ++ [x], ⟨[], []⟩, false, by simp, by omega, rfl, rfl, by omega, sl_off (sl_off a7.2 _ _ _ (fun k hk => by cases hk; exact a1)) _ _ _ (fun k hk => by cases hk; exact a1), a1, (a6.set0 []).set1 [], by simp, by simp, (a7.1.setCell (by simp) _).setCell (by simp) _, by show _ = _; rw [List.length_append, HLL.out]; rfl, HGN.out⟩, by simp [intOf]; omega⟩
        · have e3 : ((c.toNat : Int) == 44) = false := by
            rw [beq_eq_false_iff_ne]
            intro e
            exact h44 (UInt8.toNat_inj.1 (by have : c.toNat = 44 := by omega
                                             rw [this]; rfl))
          have hA := bs_append
          have hc1 : (bs [c]).size = 1 := rfl
          have j1 : ¬ 9223372036854775807 < x.n.length + 1 := by omega
          have j2 : ¬ 9223372036854775807 < x.v.length + 1 := by omega
          cases eq
          · by_cases h6 : c = 61
            · have e4 : (c == 61) = true := by rw [h6]; rfl
              have e5 : ([c] == ([61] : List UInt8)) = true := by rw [h6]; rfl
              have HGN := Lib.hid (show if i + 1 ≤ N then pgo s [] ⟨[], []⟩ false = pgo (s.drop (i + 1)) l x true else pgo s [] ⟨[], []⟩ false = some l by
                rw [if_pos (by omega), HG.out, if_neg h44, if_pos ⟨rfl, h6⟩])
              clear HG h6 h44
              go_wp2_with fail
              exact ⟨⟨i + 1, n, lg, lo, lc, l, x, true, by simp, by omega, rfl, rfl, by omega, HS.out, hlg, HP.out, by omega, by omega, HB.out, HLL.out, HGN.out⟩, by simp [intOf]; omega⟩
            · have e4 : (c == 61) = false := by simpa using h6
              have e5 : ([c] == ([61] : List UInt8)) = false := by simpa using h6
              have HGN := Lib.hid (show if i + 1 ≤ N then pgo s [] ⟨[], []⟩ false = pgo (s.drop (i + 1)) l ⟨x.n ++ [c], x.v⟩ false else pgo s [] ⟨[], []⟩ false = some l by
                rw [if_pos (by omega), HG.out, if_neg h44, if_neg (by simp [h6]), if_neg (by simp)])
              clear HG h6
              go_wp2_with fail
              exact ⟨⟨i + 1, n, lg, lo, lc, l, ⟨x.n ++ [c], x.v⟩, false, by simp, by omega, rfl, rfl, by omega, sl_off HS.out _ _ _ (fun k hk => by cases hk; exact hlg), hlg, HP.out.set0 (x.n ++ [c]), by simp; omega, by simp only; omega, HB.out.setCell (by simp) _, HLL.out, HGN.out⟩, by simp [intOf]; omega⟩
          · have HGN := Lib.hid (show if i + 1 ≤ N then pgo s [] ⟨[], []⟩ false = pgo (s.drop (i + 1)) l ⟨x.n, x.v ++ [c]⟩ true else pgo s [] ⟨[], []⟩ false = some l by
              rw [if_pos (by omega), HG.out, if_neg h44, if_neg (by simp), if_pos rfl])
            clear HG
            go_wp2_with fail
            exact ⟨⟨i + 1, n, lg, lo, lc, l, ⟨x.n, x.v ++ [c]⟩, true, by simp, by omega, rfl, rfl, by omega, sl_off HS.out _ _ _ (fun k hk => by cases hk; exact hlg), hlg, HP.out.set1 (x.v ++ [c]), by simp only; omega, by simp; omega, HB.out.setCell (by simp) _, HLL.out, HGN.out⟩, by simp [intOf]; omega⟩
      · have hin : i = N := by omega
        have e1 : ((i : Int) == (N : Int)) = true := by rw [beq_iff_eq]; omega
        have e2 : (i == N) = true := by rw [beq_iff_eq]; omega
        have hd0 : s.drop i = [] := List.drop_eq_nil_of_le (by have := HN.out; omega)
        have HG1 := HGO.out
        rw [if_pos hiN, hd0, pgo] at HG1
        have HG := Lib.hid HG1
        clear HG1 hd0
        have AFT := Lib.hid (fun (w5 : World) (g5 o5 c5 : Nat) (x5 : Ext w.heap.size 2 (W0.alloc (.cells #[.string (bs x.n), .string (bs x.v)] 54)) (.slice (some ⟨lg, lo, none⟩) n lc) n (prc l) w5 (.slice (some ⟨g5, o5, none⟩) (n + 1) c5) (n + 1) (prc l ++ [.string (bs x.n), .string (bs x.v)])) =>
          show g5 ≠ w.heap.size + 1 ∧ w5.cell? ⟨w.heap.size + 1, 0, none⟩ = some (.string (bs x.n)) ∧ w5.cell? ⟨w.heap.size + 1, 1, none⟩ = some (.string (bs x.v)) ∧ w5.frozen? ⟨w.heap.size + 1, 0, none⟩ = false ∧ w5.frozen? ⟨w.heap.size + 1, 1, none⟩ = false ∧ PBr (w.heap.size + 1) x w5 ∧ (Below w.heap.size w w5 ∧ Sl w5 w.heap.size 2 (.slice (some ⟨g5, o5, none⟩) (n + 1) c5) (n + 1) (prc (l ++ [x]))) from by
            have hP := HP.out.keep ((x5.grown.block (w.heap.size + 1) (by simp; omega) (fun e => hlg (Option.some.inj e).symm)).trans (Below.heap_alloc W0 _ (w.heap.size + 1) hpl))
            refine ⟨?_, hP.c0, hP.c1, hP.f 0, hP.f 1, hP, (HB.out.alloc hbz _).trans (x5.below (Nat.le_refl _) (by simp; omega)), by rw [prc_app]; exact x5.now⟩
            rcases x5.alias with ⟨a, cap, e1, e2, _⟩ | h
            · cases e1; cases e2; exact hlg
            · have := h g5 rfl
              simp at this
              omega)
        cases eq
        · have HGN := Lib.hid (show pgo s [] ⟨[], []⟩ false = none by rw [HG.out]; rfl)
          clear HG AFT
          go_wp2_with fail
          go_ret2
          exact RPar.none HB.out rfl HGN.out
        · have HGN := Lib.hid (show if i + 1 ≤ N then pgo s [] ⟨[], []⟩ false = pgo (s.drop (i + 1)) (l ++ [x]) ⟨[], []⟩ false else pgo s [] ⟨[], []⟩ false = some (l ++ [x]) by rw [if_neg (by omega), HG.out]; rfl)
          clear HG
          go_wp2_with (at_builtin; go_loud (refine wpList_append_sl _ rfl _ _ 29 rfl w.heap.size 54 i0 (.agg #[.string ⟨#[]⟩, .string ⟨#[]⟩]) 2 32 Tryd.underlying29 Hi.out Hz.out Hs.out Hb.out rfl (by decide) _ n _ rfl (HS.out.alloc _) ⟨W0.heap.size, 0, none⟩ 1 1 [_, _] rfl rfl (two_cells0 _ _ _ _) (by simp [Value.oneCell']) (by unfold maxLen; omega) (by omega) (by simp; omega) ?_; intro v5 w5 x5; obtain ⟨g5, o5, c5, rfl, -⟩ := x5.now.somewhere (by omega); have AB := AFT.out w5 g5 o5 c5 x5; obtain ⟨a1, a2, a3, a4, a5, a6, a7⟩ := AB))
          exact ⟨⟨i + 1, n + 1, g5, o5, c5, l ++ [x], ⟨[], []⟩, false, by simp; omega, by omega, rfl, rfl, by omega, sl_off (sl_off a7.2 _ _ _ (fun k hk => by cases hk; exact a1)) _ _ _ (fun k hk => by cases hk; exact a1), a1, (a6.set0 []).set1 [], by simp, by simp, (a7.1.setCell (by simp) _).setCell (by simp) _, by show _ = _; rw [List.length_append, HLL.out]; rfl, HGN.out⟩, by simp [intOf]; omega⟩
    · have hle : decide (i ≤ N) = false := by simp; omega
      have hle2 : ¬ (i : Int) ≤ N := by omega
      have HG1 := HGO.out
      rw [if_neg hiN] at HG1
      have HG := Lib.hid HG1
      have HRD := Lib.hid (show Rd W0 2 (.slice (some ⟨lg, lo, none⟩) n lc) l.length (prc l) by rw [HLL.out]; exact Rd.of_sl HS.out)
      have hl2 : l.length ≤ 100000 := by rw [HLL.out]; omega
      have SO := Lib.hid (rsorted_any _ l W0 HRD.out hl2)
      have hl3 : (sortS l).length ≤ 1000000 := by rw [sortS_len]; omega
      obtain ⟨c, hc⟩ : ∃ c, c = chk (sortS l) := ⟨_, rfl⟩
      have HC := Lib.hid hc
      clear HG1 hc hl2
      go_wp2_with fail
      refine SO.out.mono ?_
      rintro e w1 ⟨v1, rfl, s1, b1⟩
      have RC := Lib.hid (show Calls Tryd.prog 11 #[v1] w1 (fun e w' => e = .returned (.bool c) ∧ Below w1.heap.size w1 w') by rw [HC.out]; exact rcheck_any _ _ w1 (Rd.of_sl s1) hl3)
      have S1 := Lib.hid s1
      have B1 := Lib.hid (HB.out.trans (b1.mono hbz))
      clear s1 b1
      go_wp2_with fail
      refine RC.out.mono ?_
      rintro e w2 ⟨rfl, b2⟩
      have S2 := Lib.hid ((S1.out.on b2).mono (base' := w.heap.size) hbz)
      have B2 := Lib.hid (below_step B1.out b2)
      clear b2 RC
      cases c
      · go_wp2_with fail
        go_ret2
        exact RPar.no B2.out rfl HG.out HC.out.symm
      · go_wp2_with fail
        go_ret2
        exact RPar.ok B2.out rfl HG.out HC.out.symm S2.out
end Go.Proofs.YtmgnmppdeiflbaaDoor

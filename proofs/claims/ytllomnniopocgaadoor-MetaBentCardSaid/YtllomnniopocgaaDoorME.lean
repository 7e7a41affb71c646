/- Layer 9: what the listed variable holds; the statement MetaOne, walked. -/
import Derived.Test.YtllomnniopocgaaDoorMD
import Derived.LaidLaws
import Derived.MakeChecks
namespace Go.Proofs.YtllomnniopocgaaDoor
open Go.RowKit Go.Lib

theorem cells_of_strs {H : Type} {enc : TypeId × Value → H} {P : Program} {w : World} {base : Nat} {sp : Nat → Bool} {held : Bool} {fuel : Nat} {t e : TypeId} {n : Nat} {cs : List Value} {ss : List (List UInt8)} {p : List MemPlace}
    (ht : P.underlying t = some (.array n e)) (he : P.underlying e = some .string) (hce : P.cellsOf e = 1) (hct : P.cellsOf t = n)
    (h : DataW.trod enc P w base sp held fuel t cs = some (.agg (ss.map fun s => .lit (.string s)), p)) : cs = ss.map fun s => Value.string (bs s) := by
  cases fuel with
  | zero => simp [DataW.trod] at h
  | succ fuel =>
    simp only [DataW.trod, ht, hce, hct, Nat.mul_one] at h
    split at h
    · rename_i hl
      obtain ⟨xs, hm, hx⟩ := Option.map_eq_some_iff.1 h
      have hxs : xs.map (·.1) = ss.map fun s => (DataW.lit (.string s) : DataW H) := by
        have := congrArg Prod.fst hx
        simpa using this
      have hxl : xs.length = n := by simpa using Lib.mapM_length hm
      have hzl : ss.length = n := by
        have := congrArg List.length hxs
        simp at this
        omega
      apply List.ext_getElem?
      intro i
      by_cases hi : i < n
      · obtain ⟨b, hb, hf⟩ := Lib.mapM_at hm i i (by simp [hi])
        obtain ⟨z, hc, rfl, _⟩ := DataW.trod_string he hf
        have h1 : cs[i]? = some (.string z) := by
          have := congrArg (·[0]?) hc
          simpa [List.getElem?_take, List.getElem?_drop] using this
        have h2 : (xs.map (·.1))[i]? = some (DataW.lit (.string z.data.toList) : DataW H) := by simp [hb]
        rw [hxs] at h2
        simp only [List.getElem?_map, Option.map_eq_some_iff, DataW.lit.injEq, Lit.string.injEq] at h2
        obtain ⟨z', hz', rfl⟩ := h2
        simp [h1, hz', bs_of]
      · rw [List.getElem?_eq_none (by omega), List.getElem?_eq_none (by simp; omega)]
    · cases h
theorem parts_of_laid {w : World} (h : laidMetH Tryd.prog [("barograph/meta.parts", Rows.laid_barograph_meta_parts)] w) : PartsAt w := by
  rw [MakeChecks.laidMetH_plain _ _ _ (by kernel_rfl)] at h
  obtain ⟨ps, ⟨g', t', cs, fuel, p, q, hg', ht', hvar, hd, _, _⟩, _⟩ := h
  obtain rfl := Option.some.inj ((show Tryd.prog.globalNamed "barograph/meta.parts" = some 0 by kernel_rfl).symm.trans hg')
  obtain rfl := Option.some.inj ((show (Tryd.prog.globals[0]?).map (·.type) = some 75 by kernel_rfl).symm.trans ht')
  have e := cells_of_strs (ss := [Mt.nmC, Mt.nmI]) (show Tryd.prog.underlying 75 = some (.array 2 9) by kernel_rfl) Tryd.underlying9 (by kernel_rfl) (by kernel_rfl) hd
  have hv : w.var? Tryd.prog "barograph/meta.parts" = some #[.string (bs Mt.nmC), .string (bs Mt.nmI)] := by
    rw [hvar]
    congr 1
    apply Array.toList_inj.1
    rw [e]
    rfl
  have c0 := World.var?_cell (show Tryd.prog.globalNamed "barograph/meta.parts" = some 0 by kernel_rfl) hv 0
  have c1 := World.var?_cell (show Tryd.prog.globalNamed "barograph/meta.parts" = some 0 by kernel_rfl) hv 1
  refine ⟨?_, by simpa using c0, by simpa using c1⟩
  have := World.block_lt_of_cell? w ⟨0, 0, none⟩ (by simpa using c0)
  exact this

set_option maxHeartbeats 2000000 in
set_option maxRecDepth 100000 in
theorem oneL_any (s : ByteArray) (w : World) (hP : PartsAt w) :
    Calls Tryd.prog 4 #[.string s] w fun e w' => e = .returned (.bool true) ∧ Below w.heap.size w w' := by
  have hT := bs_toList
  obtain ⟨l, hl, hl400⟩ := cut_list s 400
  have HL := Lib.hid hl
  obtain ⟨pd, hd⟩ : ∃ p, Mt.dcd l = p := ⟨_, rfl⟩
  obtain ⟨m, l2, e2⟩ := pd
  obtain ⟨pm, hm⟩ : ∃ p, Mt.dmk l = p := ⟨_, rfl⟩
  obtain ⟨id, n, l3, e3⟩ := pm
  have DE := Lib.hid (fun W hW => decode_any l W (by omega) hW m l2 e2 hd)
  have DM := Lib.hid (fun W => show Calls Tryd.prog 12 #[.string (bs l)] W (fun e w' => e = .returned (dmkV (id, n, (l3, e3))) ∧ Below W.heap.size W w') by
    have := decMark_any l W (by omega)
    rwa [hm] at this)
  have HP := Lib.hid hP
  by_cases h2 : e2 = 0
  · subst h2
    obtain ⟨o1, o2, o3, o4⟩ := Mt.dcd_one (s := l) (by rw [hd])
    rw [hd] at o1 o2 o3
    simp only at o1 o2 o3
    have h3 : e3 ≠ 0 := by
      intro h3
      obtain ⟨_, _, _, q4⟩ := Mt.dmk_one (s := l) (by rw [hm]; exact h3)
      exact Mt.not_both o4 q4
    have hff : m.files.length ≤ 1000000 ∧ m.src.length ≤ 1000000 := by
      unfold Mt.chk at o2
      simp only [Bool.and_eq_true] at o2
      obtain ⟨⟨⟨⟨k1, k2⟩, k3⟩, k4⟩, k6⟩ := o2
      unfold Mt.okS at k6
      simp only [Bool.and_eq_true, decide_eq_true_eq] at k6
      obtain ⟨f, g, hf, _⟩ := Mt.okFs_two k4
      rw [hf]
      exact ⟨by simp, by omega⟩
    have EN := Lib.hid (fun vf vs W hW => show Calls Tryd.prog 9 #[meV m vf vs] W (fun e w' => e = .returned (.string (bs l)) ∧ Below W.heap.size W w') by
      have := encode_any m vf vs W hW o2 o3
      rwa [o1] at this)
    have DE2 := Lib.hid (fun W hW => show Calls Tryd.prog 8 #[.string (bs l)] W (DecO W m) from (DE.out W hW).mono fun e w' h => by
      unfold DecP at h; rw [if_pos rfl] at h; exact h)
    have he' : ((e3 : Int) == 0) = false := by rw [beq_eq_false_iff_ne]; omega
    have he2 : ((e3 : Int) != 0) = true := by rw [bne, he']; rfl
    have DM2 := Lib.hid (fun W => show Calls Tryd.prog 12 #[.string (bs l)] W (fun e w' => e = .returned (.tuple #[.string (bs []), .int .i64 0, .int .i64 e3]) ∧ Below W.heap.size W w') by
      have := DM.out W
      rwa [dmkV_no _ _ _ _ h3] at this)
    have HFF := Lib.hid hff
    clear hl hd hm DE DM o1 o2 o3 o4 h3 hff hP
    unfold meV at EN
    go_enter Tryd.func4, Tryd.ntmps4
    go_wp2_with fail
    refine (cut_is s l 400 400 rfl HL.out _).mono ?_
    rintro e w0 ⟨rfl, rfl⟩
    go_wp2_with fail
    refine (DE2.out _ HP.out).mono ?_
    rintro e w1 ⟨vf, vs, rfl, sf, ss, b1⟩
    have MR := Lib.hid (show MeR w1 m vf vs from ⟨Rd.of_sl sf, Rd.of_sl ss, HFF.out⟩)
    obtain ⟨af, kf, rfl⟩ := sf.slice
    obtain ⟨av, kv, rfl⟩ := ss.slice
    clear sf ss
    unfold meV
    go_wp2_with fail
    refine (DM2.out _).mono ?_
    rintro e w2 ⟨rfl, b2⟩
    have hb2 := (b2.block w1.heap.size (by simp)).trans (heap_alloc_new w1 _)
    have B2 := Lib.hid (((Below.refl w1.heap.size w1).alloc (Nat.le_refl _) _).trans (b2.mono (by simp)))
    have z2 := b2.size
    simp at z2
    go_wp2_with fail
    refine (mawake_any _).mono ?_
    rintro e w3 ⟨rfl, b3⟩
    have hb3 := (b3.block w1.heap.size (by omega)).trans hb2
    obtain ⟨p0, p1, p2, p3, p4, p5, p6, p7⟩ := cells8 hb3
    have B3 := Lib.hid (below_step B2.out b3)
    clear hb2 hb3 b2 b3
    go_wp2_with fail
    refine (EN.out _ _ _ (MR.out.on B3.out)).mono ?_
    rintro e w4 ⟨rfl, b4⟩
    go_wp2
    go_ret
    exact ⟨rfl, below_step b1 (below_step B3.out b4)⟩
  · have DE2 := Lib.hid (fun W hW => show Calls Tryd.prog 8 #[.string (bs l)] W (DecN W e2) from (DE.out W hW).mono fun e w' h => by
      unfold DecP at h; rw [if_neg h2] at h; exact h)
    have he' : ((e2 : Int) == 0) = false := by rw [beq_eq_false_iff_ne]; omega
    have he2 : ((e2 : Int) != 0) = true := by rw [bne, he']; rfl
    by_cases h3 : e3 = 0
    · subst h3
      obtain ⟨o1, o2, o3, _⟩ := Mt.dmk_one (s := l) (by rw [hm])
      rw [hm] at o1 o2 o3
      simp only at o1 o2 o3
      have EM := Lib.hid (fun W => show Calls Tryd.prog 13 #[.string (bs id), .int .i64 n] W (fun e w' => e = .returned (.string (bs l)) ∧ Below W.heap.size W w') by
        have := encMark_any id n W (by omega) (by omega)
        rwa [o1] at this)
      have DM2 := Lib.hid (fun W => show Calls Tryd.prog 12 #[.string (bs l)] W (fun e w' => e = .returned (.tuple #[.string (bs id), .int .i64 n, .int .i64 0]) ∧ Below W.heap.size W w') by
        have := DM.out W
        rwa [dmkV_ok] at this)
      clear hl hd hm DE DM o1 o2 o3 h2 hP
      go_enter Tryd.func4, Tryd.ntmps4
      go_wp2_with fail
      refine (cut_is s l 400 400 rfl HL.out _).mono ?_
      rintro e w0 ⟨rfl, rfl⟩
      go_wp2_with fail
      refine (DE2.out _ HP.out).mono ?_
      rintro e w1 ⟨rfl, b1⟩
      unfold zMeV
      go_wp2_with fail
      refine (DM2.out _).mono ?_
      rintro e w2 ⟨rfl, b2⟩
      have B2 := Lib.hid (((Below.refl w1.heap.size w1).alloc (Nat.le_refl _) _).trans (b2.mono (by simp)))
      go_wp2_with fail
      refine (mawake_any _).mono ?_
      rintro e w3 ⟨rfl, b3⟩
      have B3 := Lib.hid (below_step B2.out b3)
      go_wp2_with fail
      refine (EM.out _).mono ?_
      rintro e w4 ⟨rfl, b4⟩
      go_wp2
      go_ret
      exact ⟨rfl, below_step b1 (below_step B3.out b4)⟩
    · have hf' : ((e3 : Int) == 0) = false := by rw [beq_eq_false_iff_ne]; omega
      have hf2 : ((e3 : Int) != 0) = true := by rw [bne, hf']; rfl
      have DM2 := Lib.hid (fun W => show Calls Tryd.prog 12 #[.string (bs l)] W (fun e w' => e = .returned (.tuple #[.string (bs []), .int .i64 0, .int .i64 e3]) ∧ Below W.heap.size W w') by
        have := DM.out W
        rwa [dmkV_no _ _ _ _ h3] at this)
      clear hl hd hm DE DM h2 h3 hP
      go_enter Tryd.func4, Tryd.ntmps4
      go_wp2_with fail
      refine (cut_is s l 400 400 rfl HL.out _).mono ?_
      rintro e w0 ⟨rfl, rfl⟩
      go_wp2_with fail
      refine (DE2.out _ HP.out).mono ?_
      rintro e w1 ⟨rfl, b1⟩
      unfold zMeV
      go_wp2_with fail
      refine (DM2.out _).mono ?_
      rintro e w2 ⟨rfl, b2⟩
      have B2 := Lib.hid (((Below.refl w1.heap.size w1).alloc (Nat.le_refl _) _).trans (b2.mono (by simp)))
      go_wp2_with fail
      refine (mawake_any _).mono ?_
      rintro e w3 ⟨rfl, b3⟩
      have B3 := Lib.hid (below_step B2.out b3)
      go_wp2
      go_ret
      exact ⟨rfl, below_step b1 B3.out⟩
end Go.Proofs.YtllomnniopocgaaDoor

/- Layer 9: what the listed variable holds; the statement MetaOne, walked. -/
import Derived.Test.YtoihkeilofpcjaaDoorMMD
import Derived.LaidLaws
import Derived.MakeChecks
namespace Go.Proofs.YtoihkeilofpcjaaDoor
open Go.RowKit Go.Lib

theorem cells_of_strs {H : Type} {enc : TypeId × Value → H} {P : Program} {w : World} {base : Nat} {sp : Nat → Bool} {held : Bool} {fuel : Nat} {t e : TypeId} {n : Nat} {cs : List Value} {ss : List (List UInt8)} {p : List MemPlace}
    (ht : P.underlying t = some (.array n e)) (he : P.underlying e = some .string) (hce : P.cellsOf e = 1) (hct : P.cellsOf t = n)
    (h : DataW.trod enc P w base sp held fuel t cs = some (.agg (ss.map fun s => .lit (.string s)), p)) : cs = ss.map fun s => Value.string (bs s) := by
  cases fuel with
  | zero => simp [DataW.trod] at h
  | succ fuel =>
    simp only [DataW.trod, ht, hce, hct, Nat.mul_one] at h
    split at h
    · rename_i hl
      obtain ⟨xs, hm, hx⟩ := Option.map_eq_some_iff.1 h
      have hxs : xs.map (·.1) = ss.map fun s => (DataW.lit (.string s) : DataW H) := by
        have := congrArg Prod.fst hx
        simpa using this
      have hxl : xs.length = n := by simpa using Lib.mapM_length hm
      have hzl : ss.length = n := by
        have := congrArg List.length hxs
        simp at this
        omega
      apply List.ext_getElem?
      intro i
      by_cases hi : i < n
      · obtain ⟨b, hb, hf⟩ := Lib.mapM_at hm i i (by simp [hi])
        obtain ⟨z, hc, rfl, _⟩ := DataW.trod_string he hf
        have h1 : cs[i]? = some (.string z) := by
          have := congrArg (·[0]?) hc
          simpa [List.getElem?_take, List.getElem?_drop] using this
        have h2 : (xs.map (·.1))[i]? = some (DataW.lit (.string z.data.toList) : DataW H) := by simp [hb]
        rw [hxs] at h2
        simp only [List.getElem?_map, Option.map_eq_some_iff, DataW.lit.injEq, Lit.string.injEq] at h2
        obtain ⟨z', hz', rfl⟩ := h2
        simp [h1, hz', bs_of]
      · rw [List.getElem?_eq_none (by omega), List.getElem?_eq_none (by simp; omega)]
    · cases h
theorem parts_of_laid {w : World} (h : laidMetH Tryd.prog [("barograph/meta.parts", Rows.laid_barograph_meta_parts)] w) : PartsAt w := by
  rw [MakeChecks.laidMetH_plain _ _ _ (by kernel_rfl)] at h
  obtain ⟨ps, ⟨g', t', cs, fuel, p, q, hg', ht', hvar, hd, _, _⟩, _⟩ := h
  obtain rfl := Option.some.inj ((show Tryd.prog.globalNamed "barograph/meta.parts" = some 0 by kernel_rfl).symm.trans hg')
  obtain rfl := Option.some.inj ((show (Tryd.prog.globals[0]?).map (·.type) = some 75 by kernel_rfl).symm.trans ht')
  have e := cells_of_strs (ss := [Mt.nmC, Mt.nmI]) (show Tryd.prog.underlying 75 = some (.array 2 9) by kernel_rfl) Tryd.underlying9 (by kernel_rfl) (by kernel_rfl) hd
  have hv : w.var? Tryd.prog "barograph/meta.parts" = some #[.string (bs Mt.nmC), .string (bs Mt.nmI)] := by
    rw [hvar]
    congr 1
    apply Array.toList_inj.1
    rw [e]
    rfl
  have c0 := World.var?_cell (show Tryd.prog.globalNamed "barograph/meta.parts" = some 0 by kernel_rfl) hv 0
  have c1 := World.var?_cell (show Tryd.prog.globalNamed "barograph/meta.parts" = some 0 by kernel_rfl) hv 1
  refine ⟨?_, by simpa using c0, by simpa using c1⟩
  have := World.block_lt_of_cell? w ⟨0, 0, none⟩ (by simpa using c0)
  exact this

end Go.Proofs.YtoihkeilofpcjaaDoor

/- Layer 8: the document's own Split; the statement IdentNames walked. -/
import Derived.Test.YtfdbhmdaiihmhaaIC
namespace Go.Proofs.Ytfdbhmdaiihmhaa
open Go.RowKit Go.Lib

set_option maxHeartbeats 2000000 in
set_option maxRecDepth 100000 in
theorem rsplit_id (l : List UInt8) (w : World) (hl : l.length ≤ 40) :
    Calls Try.prog 27 #[.string (bs l)] w fun e w' => e = .returned (splV (spl l)) ∧ Drw w w' := by
  have hT := bs_toList
  have hz : (bs l).size = l.length := bs_size l
  rw [spl_at]
  by_cases h1 : 17 ≤ l.length
  · obtain ⟨c, hc⟩ : ∃ c, l[16]? = some c := ⟨l[16]'(by omega), List.getElem?_eq_getElem (by omega)⟩
    have hg : ∀ h, (bs l)[16]'h = c := fun h => by
      have : l[16]'(by omega) = c := by rw [List.getElem?_eq_getElem (by omega)] at hc; exact Option.some.inj hc
      rw [← this]; rfl
    have d1 : ¬ ((l.length : Int) < 17) := by omega
    by_cases h2 : c = 47
    · subst h2
      have P := Lib.hid (fun W => show Calls Try.prog 25 #[.string ((bs l).extract 0 16)] W (fun e w' => e = .returned (rparV (pars (l.take 16))) ∧ Drw W w') by
        have := rparse_id ((bs l).extract 0 16) W
        rwa [bs_take, bs_list, ← bs_take] at this)
      obtain ⟨p, hp⟩ : ∃ p, p = pars (l.take 16) := ⟨_, rfl⟩
      rw [← hp] at P
      have hd := bs_drop l 17
      rw [hz] at hd
      obtain ⟨q, hq⟩ : ∃ q, q = l.drop 17 := ⟨_, rfl⟩
      have ht := Lib.hid (bs_take l 16)
      have hi : isp q = true ∨ isp q = false := by cases isp q <;> simp
      rw [← hq] at hd
      cases p with
      | none =>
        have HR := Lib.hid (show (if 17 ≤ l.length ∧ l[16]? = some 47 ∧ (pars (l.take 16)).isSome = true ∧ isp (l.drop 17) = true then some (l.take 16, l.drop 17) else none) = none by rw [if_neg]; rintro ⟨_, _, h, _⟩; rw [← hp] at h; cases h)
        rw [HR.out]
        unfold rparV at P
        clear hc hp hq h1 HR
        go_enter Try.func27, Try.ntmps27
        go_wp2_with fail
        with_reducible refine (P.out _).mono ?_
        rintro e w1 ⟨rfl, d2⟩
        go_wp2
        go_ret3
        exact ⟨rfl, d2⟩
      | some p =>
        unfold rparV at P
        have HR := Lib.hid (show (if 17 ≤ l.length ∧ l[16]? = some 47 ∧ (pars (l.take 16)).isSome = true ∧ isp (l.drop 17) = true then some (l.take 16, l.drop 17) else none) = (if isp q = true then some (l.take 16, q) else none) by
          by_cases hh : isp q = true
          · rw [if_pos hh, if_pos ⟨h1, hc, by rw [← hp]; rfl, by rw [← hq]; exact hh⟩, hq]
          · rw [if_neg hh, if_neg]
            rintro ⟨_, _, _, h⟩
            rw [← hq] at h
            exact hh h)
        rw [HR.out]
        clear hc hp hq h1 HR
        have k1 : ByteArray.mk #[99, 104, 117, 110, 107, 115] = bs [99, 104, 117, 110, 107, 115] := rfl
        have k2 : ByteArray.mk #[105, 110, 100, 101, 120] = bs [105, 110, 100, 101, 120] := rfl
        have k3 : ByteArray.mk #[109, 101, 116, 97] = bs [109, 101, 116, 97] := rfl
        have k4 : ByteArray.mk #[109, 97, 114, 107] = bs [109, 97, 114, 107] := rfl
        by_cases h5 : isp q = true
        · rw [if_pos h5]
          unfold isp at h5
          simp only [Bool.or_eq_true, beq_iff_eq] at h5
          clear hi
          rcases h5 with ((h5 | h5) | h5) | h5 <;> subst h5
          all_goals
            go_enter Try.func27, Try.ntmps27
            go_wp2_with fail
            with_reducible refine (P.out _).mono ?_
            rintro e w1 ⟨rfl, d2⟩
            go_wp2
            go_ret3
            refine ⟨?_, d2⟩
            show Ending.returned (.tuple #[.string ((bs l).extract 0 16), _, _]) = _
            rw [ht.out]
            rfl
        · rw [if_neg h5]
          have b1 : (q == [99, 104, 117, 110, 107, 115]) = false := by rw [Bool.eq_false_iff]; intro e; apply h5; unfold isp; rw [e]; rfl
          have b2 : (q == [105, 110, 100, 101, 120]) = false := by rw [Bool.eq_false_iff]; intro e; apply h5; unfold isp; rw [e]; simp
          have b3 : (q == [109, 101, 116, 97]) = false := by rw [Bool.eq_false_iff]; intro e; apply h5; unfold isp; rw [e]; simp
          have b4 : (q == [109, 97, 114, 107]) = false := by rw [Bool.eq_false_iff]; intro e; apply h5; unfold isp; rw [e]; simp
          clear hi h5
          go_enter Try.func27, Try.ntmps27
          go_wp2_with fail
          with_reducible refine (P.out _).mono ?_
          rintro e w1 ⟨rfl, d2⟩
          go_wp2
          go_ret3
          exact ⟨rfl, d2⟩
    · have HR := Lib.hid (show (if 17 ≤ l.length ∧ l[16]? = some 47 ∧ (pars (l.take 16)).isSome = true ∧ isp (l.drop 17) = true then some (l.take 16, l.drop 17) else none) = none by rw [if_neg]; rintro ⟨_, k, _⟩; rw [hc] at k; exact h2 (Option.some.inj k))
      rw [HR.out]
      have d2 : ((c.toNat : Int) != 47) = true := by
        have : c.toNat ≠ 47 := fun e => h2 (UInt8.toNat_inj.1 e)
        simp; omega
      have d3 : ((c.toNat : Int) == 47) = false := by
        have : c.toNat ≠ 47 := fun e => h2 (UInt8.toNat_inj.1 e)
        rw [beq_eq_false_iff_ne]; omega
      clear hc h2 HR
      go_enter Try.func27, Try.ntmps27
      go_wp2
      go_ret3
      exact ⟨rfl, Drw.refl _⟩
  · rw [if_neg (fun k => h1 k.1)]
    have d1 : (l.length : Int) < 17 := by omega
    go_enter Try.func27, Try.ntmps27
    go_wp2
    go_ret3
    exact ⟨rfl, Drw.refl _⟩
end Go.Proofs.Ytfdbhmdaiihmhaa

/- Layer 9: Check, its files and its sources. -/
import Derived.Test.YtoihkeilofpcjaaDoorMM7
namespace Go.Proofs.YtoihkeilofpcjaaDoor
open Go.RowKit Go.Lib

/-- Files beside their names. -/
def okZ (l : List (Mt.Fl × List UInt8)) : Bool := l.all fun p => Mt.okF p.1 p.2
theorem okZ_two (f g : Mt.Fl) : Mt.okFs [f, g] = okZ ([f, g].zip [Mt.nmC, Mt.nmI]) := by simp [Mt.okFs, okZ]
theorem okFs_len {l : List Mt.Fl} (h : l.length ≠ 2) : Mt.okFs l = false := by
  match l, h with
  | [], _ => rfl
  | [_], _ => rfl
  | [_, _], h => simp at h
  | _ :: _ :: _ :: _, _ => rfl

set_option maxHeartbeats 2000000 in
set_option maxRecDepth 100000 in
theorem files_any (m : Mt.Me) (vf vs : Value) (w : World) (h : MeR w m vf vs) (hP : PartsAt w) :
    Calls Tryd.prog 24 #[meV m vf vs] w fun e w' => e = .returned (.bool (Mt.okFs m.files)) ∧ Below w.heap.size w w' := by
  have hT := bs_toList
  obtain ⟨id, mn, mx, lv, se, sa, files, src⟩ := m
  obtain ⟨⟨_, a, cap, g, off, rfl, hg, hc⟩, _, hmf, _⟩ := h
  simp only at hg hc hmf
  unfold meV
  show Calls _ _ _ _ fun e w' => e = .returned (.bool (Mt.okFs files)) ∧ _
  obtain ⟨n, hn⟩ : ∃ n, n = files.length := ⟨_, rfl⟩
  show Calls _ _ #[.agg #[_, _, _, _, _, _, .slice a files.length cap, _]] _ _
  rw [← hn] at hg hc hmf ⊢
  by_cases h2 : n = 2
  · subst h2
    obtain ⟨rfl, hgl⟩ := hg (by omega)
    have HP := Lib.hid hP
    have HC := Lib.hid hc
    obtain ⟨Z, hZ⟩ : ∃ Z, Z = files.zip [Mt.nmC, Mt.nmI] := ⟨_, rfl⟩
    have hZl : Z.length = 2 := by rw [hZ, List.length_zip]; simp; omega
    have HO := Lib.hid (show Mt.okFs files = okZ Z by
      match files, hn with
      | [f, g], _ => rw [hZ]; exact okZ_two f g)
    have HZ := Lib.hid hZ
    have HN := Lib.hid hn
    clear hP hg hc hZ hn hmf
    go_enter Tryd.func24, Tryd.ntmps24
    go_wp2_with fail
    go_loopw [12] (fun i' wr => ∃ (i : Nat), i' = .int .i64 i ∧ i ≤ 2 ∧ Hid (Mt.okFs files = okZ (Z.drop i)) ∧ Below w.heap.size w wr) (fun i' _ => 2 - (intOf i').toNat)
    case atStart => exact ⟨0, rfl, by omega, by rw [List.drop_zero]; exact HO, (Below.refl _ _).alloc (Nat.le_refl _) _⟩
    case round =>
      obtain ⟨i, rfl, hi, hk, hb⟩ := hrel
      have hbz := hb.size
      by_cases hlt : i < 2
      · obtain ⟨⟨f, nm⟩, hx⟩ : ∃ x, Z[i]? = some x := ⟨Z[i]'(by omega), List.getElem?_eq_getElem (by omega)⟩
        have hx2 := hx
        rw [HZ.out, List.getElem?_zip_eq_some] at hx2
        obtain ⟨hx3, hx4⟩ := hx2
        obtain ⟨v0, v1, v2⟩ := flc_at files i f hx3
        have q0 := ((hb.cell (p := ⟨g, off + i * 3, none⟩) hgl).trans (HC.out (i * 3) (by omega))).trans v0
        have q1 := ((hb.cell (p := ⟨g, off + (i * 3 + 1), none⟩) hgl).trans (HC.out (i * 3 + 1) (by omega))).trans v1
        have q2 := ((hb.cell (p := ⟨g, off + (i * 3 + 2), none⟩) hgl).trans (HC.out (i * 3 + 2) (by omega))).trans v2
        rw [← Nat.add_assoc] at q1 q2
        have hPw := HP.out.below hb
        have qp := (((Below.refl wr.heap.size wr).alloc (Nat.le_refl _) (Obj.cells #[.string (bs f.name), .int .i64 f.size, .int .u32 f.sum] 42)).cell (p := ⟨0, i, none⟩) hPw.1).trans (hPw.at i nm hx4)
        have hd : Z.drop i = (f, nm) :: Z.drop (i + 1) := by
          rw [List.drop_eq_getElem_cons (by omega)]
          congr 1
          rw [List.getElem?_eq_getElem (by omega)] at hx
          exact Option.some.inj hx
        have hkk : Mt.okFs files = (Mt.okF f nm && okZ (Z.drop (i + 1))) := by rw [hk.out, hd]; rfl
        have hil : (i : Int) < 2 := by omega
        have hil0 : (0 : Int) ≤ i := by omega
        have hw : wrap64 ((i : Int) + 1) = i + 1 := IntWalk.wrap64_in _ ⟨by omega, by omega⟩
        clear hx hx3 hx4 v0 v1 v2 hd hk hPw
        by_cases t1 : f.name = nm
        · by_cases t2 : f.size < 0
          · have d2 : decide (f.size < 0) = true := decide_eq_true t2
            have hq : (f.name == nm) = true := beq_iff_eq.2 t1
            have hq2 : (f.name != nm) = false := by rw [bne, hq]; rfl
            have HQ := Lib.hid (show Mt.okFs files = false by rw [hkk]; unfold Mt.okF; rw [decide_eq_false (show ¬ 0 ≤ f.size by omega)]; simp)
            clear hkk t2 t1
            go_wp2
            go_region
            all_goals go_wp2
            all_goals go_ret
            all_goals exact ⟨by rw [HQ.out]; rfl, (hb.alloc hbz _).drew⟩
          · have d2 : decide (f.size < 0) = false := decide_eq_false t2
            by_cases t3 : 1048576 < f.size
            · have d3 : decide (1048576 < f.size) = true := decide_eq_true t3
              have hq : (f.name == nm) = true := beq_iff_eq.2 t1
              have hq2 : (f.name != nm) = false := by rw [bne, hq]; rfl
              have HQ := Lib.hid (show Mt.okFs files = false by rw [hkk]; unfold Mt.okF; rw [decide_eq_false (show ¬ f.size ≤ 1048576 by omega)]; simp)
              clear hkk t2 t1 t3
              go_wp2
              go_region
              all_goals go_wp2
              all_goals go_ret
              all_goals exact ⟨by rw [HQ.out]; rfl, (hb.alloc hbz _).drew⟩
            · have d3 : decide (1048576 < f.size) = false := decide_eq_false t3
              have hq : (f.name == nm) = true := beq_iff_eq.2 t1
              have hq2 : (f.name != nm) = false := by rw [bne, hq]; rfl
              have HQ := Lib.hid (show Mt.okFs files = okZ (Z.drop (i + 1)) by rw [hkk]; unfold Mt.okF; rw [decide_eq_true t1, decide_eq_true (show 0 ≤ f.size by omega), decide_eq_true (show f.size ≤ 1048576 by omega)]; rfl)
              clear hkk t2 t1 t3
              go_wp2
              go_region
              all_goals go_wp2
              all_goals exact ⟨⟨i + 1, by simp, by omega, HQ, (hb.alloc hbz _).drew⟩, by simp [intOf]; omega⟩
        · have hq : (f.name == nm) = false := beq_eq_false_iff_ne.2 t1
          have hq2 : (f.name != nm) = true := by rw [bne, hq]; rfl
          have HQ := Lib.hid (show Mt.okFs files = false by rw [hkk]; unfold Mt.okF; rw [decide_eq_false t1]; rfl)
          clear hkk t1
          go_wp2
          go_region
          all_goals go_wp2
          all_goals go_ret
          all_goals exact ⟨by rw [HQ.out]; rfl, (hb.alloc hbz _).drew⟩
      · have hil : ¬ (i : Int) < 2 := by omega
        have HQ := Lib.hid (show Mt.okFs files = true by rw [hk.out, List.drop_eq_nil_of_le (by omega)]; rfl)
        clear hk
        go_wp2
        go_ret
        exact ⟨by rw [HQ.out]; rfl, hb⟩
  · have HK := Lib.hid (okFs_len (l := files) (by omega))
    rw [HK.out]
    have h2' : ((n : Int) == 2) = false := by rw [beq_eq_false_iff_ne]; omega
    have h2'' : ((n : Int) != 2) = true := by rw [bne, h2']; rfl
    clear hn hg hc h2 hP hmf
    go_enter Tryd.func24, Tryd.ntmps24
    go_wp2
    go_ret
    exact ⟨rfl, (Below.refl _ _).alloc (Nat.le_refl _) _⟩
end Go.Proofs.YtoihkeilofpcjaaDoor

/- Layer 12: lists cloned; Both, walked. -/
import Derived.Test.YteheojiokbdgmaaGreatDoorMT3
namespace Go.Proofs.YteheojiokbdgmaaGreatDoor
open Go.RowKit Go.Lib

theorem run_isnil12 (a : Option Addr) (n c : Nat) (w : World) : (binOp BinOp.eql 36 (.slice a n c) (.slice none 0 0)).run Tryz.prog w = .ok (.bool a.isNone) w := by
  have hu := run_underlying Tryz.underlying36
  have he : (Op.equal 36 (.slice a n c) (.slice none 0 0)).run Tryz.prog w = .ok a.isNone w := by
    show (Op.equalIn (9999 + 1) _ _ _).run _ _ = _
    unfold Op.equalIn
    simp only [Sem.run_bind, hu, Result.andThen]
    cases a <;> rfl
  simp [binOp, go_sem, he]

theorem addr_add (g off j : Nat) : (⟨g, off, none⟩ : Addr).add j = ⟨g, off + j, none⟩ := by
  unfold Addr.add
  split
  · rename_i h; subst h; rfl
  · rfl

set_option maxHeartbeats 1000000 in
set_option maxRecDepth 100000 in
theorem nclone_any (v : Value) (l : List Int) (w : World) (h : Nc w v l) :
    Calls Tryz.prog 26 #[v] w (NewN w l) := by
  obtain ⟨i0, hi, hz0, hz1, hz2⟩ := info_parts bi_int
  have Hz := Lib.hid hz0; have Hs := Lib.hid hz1; have Hb := Lib.hid hz2; have Hi := Lib.hid hi
  clear hz0 hz1 hz2 hi
  obtain ⟨hl, a, cap, g, off, rfl, hc, h1, h2⟩ := h
  cases a with
  | none =>
    have hn := Lib.hid (show l = [] by
      rcases Nat.eq_zero_or_pos l.length with h | h
      · exact List.eq_nil_of_length_eq_zero h
      · exact absurd (h1 h).1 (by simp))
    clear h1 h2 hc hl
    obtain ⟨n, hnn⟩ : ∃ n, n = l.length := ⟨_, rfl⟩
    rw [← hnn]
    clear hnn
    have hq := fun W => run_isnil12 none n cap W
    go_enter Tryz.func26, Tryz.ntmps26
    go_wp2
    go_ret
    exact ⟨_, rfl, by rw [hn.out]; exact Sl.nil _ _ _, Below.refl _ _⟩
  | some p =>
    obtain ⟨n, hn⟩ : ∃ n, n = l.length := ⟨_, rfl⟩
    have HN := Lib.hid hn
    have n1 : 0 + n ≤ maxLen := by unfold maxLen; omega
    have n2 : (0 + n) * 8 ≤ 140737488355328 := by omega
    have HP := Lib.hid (show ∀ j u, (ic l)[j]? = some u → w.cell? (p.add j) = some u from fun j u hu => by
      have hj : j < l.length := by have := (List.getElem?_eq_some_iff.1 hu).1; rwa [ic_length] at this
      obtain ⟨e, hg⟩ := h1 (by omega)
      cases e
      have := h2 j l[j] (List.getElem?_eq_getElem hj)
      rw [ic_at l j l[j] (List.getElem?_eq_getElem hj)] at hu
      rw [← Option.some.inj hu, addr_add]; exact this)
    have HL := Lib.hid (show (ic l).length = n * 1 by rw [ic_length]; omega)
    have HPB := Lib.hid (show ∀ j u, (ic l)[j]? = some u → (p.add j).block < w.heap.size from fun j u hu => by
      have hj : j < l.length := by have := (List.getElem?_eq_some_iff.1 hu).1; rwa [ic_length] at this
      obtain ⟨e, hg⟩ := h1 (by omega)
      cases e
      rw [addr_add]; exact hg)
    rw [← hn] at hl hc ⊢
    clear hn h1 h2
    have hq := fun W => run_isnil12 (some p) n cap W
    go_enter Tryz.func26, Tryz.ntmps26
    go_wp2_with (at_builtin; refine wpList_append_sl _ rfl _ _ 36 rfl w.heap.size 3 i0 (.int .i64 0) 1 8 Tryz.underlying36 Hi.out Hz.out Hs.out Hb.out rfl (by decide) _ 0 _ rfl (Sl.lit w w.heap.size 1 0 #[] _ (Nat.le_refl _) (by decide) rfl) p n cap (ic l) rfl HL.out (fun j u hu => (Below.cell ((Below.refl w.heap.size w).alloc (Nat.le_refl _) _) (HPB.out j u hu)).trans (HP.out j u hu)) (ic_one _) n1 n2 (by simp) ?_; intro v' w1 hx)
    go_ret
    have hx1 := hx.now
    rw [Nat.zero_add] at hx1
    refine ⟨_, rfl, by rw [← HN.out]; exact hx1, ?_⟩
    exact ((Below.refl _ w).alloc (Nat.le_refl _) _).grown hx.grown (by simp) (fun k e => by have e2 : w.heap.size = k := Option.some.inj e; omega)

/-- Lists within their capacities, only read, in a slice. -/
def Ncs (w : World) (v : Value) (ls : List (List Int)) : Prop := ls.length ≤ 100000 ∧ ∃ a cap g off, v = .slice a ls.length cap ∧ ls.length ≤ cap ∧ (0 < ls.length → a = some ⟨g, off, none⟩ ∧ g < w.heap.size) ∧ ∀ j l, ls[j]? = some l → ∃ x, w.cell? ⟨g, off + j, none⟩ = some x ∧ Nc w x l
theorem Ncs.on {w w' : World} {v : Value} {ls : List (List Int)} (h : Ncs w v ls) (b : Below w.heap.size w w') : Ncs w' v ls := by
  obtain ⟨hl, a, cap, g, off, hv, hc, h1, h2⟩ := h
  refine ⟨hl, a, cap, g, off, hv, hc, fun hn => ⟨(h1 hn).1, Nat.lt_of_lt_of_le (h1 hn).2 b.size⟩, fun j l hx => ?_⟩
  have hn : 0 < ls.length := by have := (List.getElem?_eq_some_iff.1 hx).1; omega
  obtain ⟨x, hx1, hx2⟩ := h2 j l hx
  exact ⟨x, (b.cell (p := ⟨g, off + j, none⟩) (h1 hn).2).trans hx1, hx2.on b⟩
/-- What the first so many leave. -/
def accZ (l : List Int) (ls : List (List Int)) : List Int := ls.foldl (fun acc o => pickZ acc o true) l
theorem accZ_snoc (l : List Int) (ls : List (List Int)) (o : List Int) : accZ l (ls ++ [o]) = pickZ (accZ l ls) o true := by simp [accZ, List.foldl_append]
theorem accZ_len : ∀ (ls : List (List Int)) (l : List Int), (accZ l ls).length ≤ l.length
  | [], l => Nat.le_refl _
  | o :: ls, l => by
    have h1 := accZ_len ls (pickZ l o true)
    have h2 : (pickZ l o true).length ≤ l.length := List.length_filter_le _ _
    show (accZ (pickZ l o true) ls).length ≤ _
    omega

theorem slice_one (g off N cap k : Nat) (hN : N = k + 1) (hN3 : (N : Int) ≤ cap) : ∃ v' a' c', (∀ W, (Instr.slice 84 (.slice (some ⟨g, off, none⟩) N cap) (some (.int .i64 1)) none none).run Tryz.prog W = .ok v' W) ∧ v' = .slice a' k c' ∧ (0 < k → a' = some ⟨g, off + 1, none⟩) := by
  have hu := run_underlying Tryz.underlying84
  have hsz := Tryz.sizeOf36
  by_cases hcap : cap = 1
  · have hl0 : k = 0 := by omega
    have hN0 : N = 1 := by omega
    subst hcap hN0 hl0
    refine ⟨.slice (some ⟨g, off, none⟩) 0 0, some ⟨g, off, none⟩, 0, fun W => ?_, rfl, fun h => absurd h (by omega)⟩
    simp [Instr.slice, Instr.sliceBounds, go_sem, hu, hsz, Addr.add]
  · subst hN
    have hN2 : (1 : Int) ≤ ((k + 1 : Nat) : Int) := by omega
    refine ⟨.slice (some ⟨g, off + 1, none⟩) k (cap - 1), _, cap - 1, fun W => ?_, rfl, fun h => rfl⟩
    simp [Instr.slice, Instr.sliceBounds, go_sem, hu, hsz, hcap, Addr.add]
    omega

set_option maxHeartbeats 4000000 in
set_option maxRecDepth 100000 in
theorem both_any (v : Value) (ls : List (List Int)) (w : World) (h : Ncs w v ls) (hu : ∀ l ∈ ls, Up l) :
    Calls Tryz.prog 24 #[v] w (NewN w (bothP ls)) := by
  obtain ⟨hl, a, cap, g, off, rfl, hlc, hg, hc⟩ := h
  have hsz := Tryz.sizeOf36
  cases ls with
  | nil =>
    clear hg hc hu
    have hlc0 : (0 : Int) ≤ cap := by omega
    go_enter Tryz.func24, Tryz.ntmps24
    go_wp2_with fail
    go_ret
    exact ⟨_, rfl, Sl.lit w w.heap.size 1 0 #[] _ (Nat.le_refl _) (by decide) rfl, (Below.refl _ w).alloc (Nat.le_refl _) _⟩
  | cons l0 ls =>
    obtain ⟨rfl, hgl⟩ := hg (by simp)
    obtain ⟨x0, c0, hx0⟩ := hc 0 l0 rfl
    rw [Nat.add_zero] at c0
    obtain ⟨N, hN⟩ : ∃ N, N = (l0 :: ls).length := ⟨_, rfl⟩
    have HN := Lib.hid (show N = ls.length + 1 by rw [hN]; rfl)
    rw [← hN] at hl hlc ⊢
    have hN1 : 1 ≤ N := by have := HN.out; omega
    have hN2 : (1 : Int) ≤ N := by omega
    have hN3 : (N : Int) ≤ cap := by omega
    have e0 : ((N : Int) == 0) = false := by simp; omega
    have e1 : decide (0 < N) = true := by simp; omega
    have HC := Lib.hid (show ∀ j l, ls[j]? = some l → ∃ x, w.cell? ⟨g, off + 1 + j, none⟩ = some x ∧ Nc w x l from fun j l hj => by
      obtain ⟨x, h1, h2⟩ := hc (j + 1) l (by simpa using hj)
      exact ⟨x, by rw [Nat.add_assoc, Nat.add_comm 1 j]; exact h1, h2⟩)
    have HU0 := Lib.hid (hu l0 (by simp))
    have HUS := Lib.hid (show ∀ l ∈ ls, Up l from fun l hl => hu l (by simp [hl]))
    have HL0 := Lib.hid hx0.1
    have C0 := Lib.hid (nclone_any x0 l0 w hx0)
    have hr := slice_one g off N cap ls.length HN.out hN3
    obtain ⟨v', a', c', hr, rfl, ha'⟩ := hr
    have HA := Lib.hid ha'
    obtain ⟨M, hM⟩ : ∃ M, M = ls.length := ⟨_, rfl⟩
    rw [← hM] at hr HA
    have HM := Lib.hid hM
    have hM5 : M ≤ 100000 := by have := HN.out; omega
    clear hc hu hx0 hN hg hM ha'
    go_enter Tryz.func24, Tryz.ntmps24
    go_wp2_with fail
    refine C0.out.mono ?_
    rintro e w1 ⟨v1, rfl, s1, b1⟩
    obtain ⟨oa, oc, rfl⟩ := s1.slice
    have S1 := Lib.hid s1; have B1 := Lib.hid b1
    clear s1 b1
    go_wp2_with fail
    go_loopw [3, 17] (fun p' i' wr => ∃ (i m : Nat), i' = .int .i64 i ∧ i ≤ M ∧ Hid ((accZ l0 (ls.take i)).length = m) ∧ Sl wr w.heap.size 1 p' m (ic (accZ l0 (ls.take i))) ∧ Below w.heap.size w wr) (fun _ i' _ => M - (RowKit.intOf i').toNat)
    case atStart => exact ⟨0, _, rfl, by omega, rfl, S1.out, B1.out⟩
    case round =>
      obtain ⟨W0, rfl⟩ : ∃ W0, W0 = wr := ⟨_, rfl⟩
      obtain ⟨i, m, rfl, hi, hml, hs, hb⟩ := hrel
      have hacc := bothP_go (ls.take i) l0 HU0.out
      have hacl := accZ_len (ls.take i) l0
      have hl0 := HL0.out
      have hmm := hml.out
      have hnc : Nc W0 _ (accZ l0 (ls.take i)) := Nc.of_sl (by rw [hmm]; exact hs) (by omega)
      obtain ⟨pa, pc, rfl⟩ := hs.slice
      have HML := Lib.hid hml.out; have HS := Lib.hid hs; have HB := Lib.hid hb
      have HUP := Lib.hid (show Up (accZ l0 (ls.take i)) from hacc.1)
      have hbz := hb.size
      by_cases hlt : i < M
      · obtain rfl := HA.out (by omega)
        obtain ⟨o, ho⟩ : ∃ o, ls[i]? = some o := ⟨ls[i]'(by have := HM.out; omega), List.getElem?_eq_getElem (by have := HM.out; omega)⟩
        obtain ⟨x, hx, hxn⟩ := HC.out i o ho
        have c1 := (hb.cell (p := ⟨g, off + 1 + i, none⟩) hgl).trans hx
        have HTK := Lib.hid (show accZ l0 (ls.take (i + 1)) = pickZ (accZ l0 (ls.take i)) o true by rw [List.take_add_one, ho]; exact accZ_snoc _ _ o)
        have CP := Lib.hid (picked_any (.slice pa m pc) x (accZ l0 (ls.take i)) o true W0 hnc (hxn.on hb) HUP.out (HUS.out o (List.mem_of_getElem? ho)))
        have hil : (i : Int) < M := by omega
        clear hx hxn hacc hacl hmm hnc hml hs hb ho
        as_aux_lemma =>
        go_wp2_with fail
        refine CP.out.mono ?_
        rintro e w2 ⟨v2, rfl, s2, b2⟩
        obtain ⟨qa, qc, rfl⟩ := s2.slice
        have S2 := Lib.hid (s2.mono hbz); have B2 := Lib.hid (HB.out.trans (b2.mono hbz))
        clear s2 b2
        go_wp2_with fail
        exact ⟨⟨i + 1, _, by simp, by omega, by rw [HTK.out]; rfl, by rw [HTK.out]; exact S2.out, B2.out⟩, by simp [RowKit.intOf]; omega⟩
      · have hil : ¬ (i : Int) < M := by omega
        have hall : ls.take i = ls := List.take_of_length_le (by have := HM.out; omega)
        have HF := Lib.hid (show Sl W0 w.heap.size 1 (.slice pa m pc) (bothP (l0 :: ls)).length (ic (bothP (l0 :: ls))) by
          have h1 := HML.out; have h2 := HS.out
          rw [hall] at h1 h2
          show Sl W0 w.heap.size 1 (.slice pa m pc) (accZ l0 ls).length (ic (accZ l0 ls))
          rw [h1]; exact h2)
        clear hall hml hs hacc hacl hmm hnc
        go_wp2
        go_ret
        exact ⟨_, rfl, HF.out, hb⟩
end Go.Proofs.YteheojiokbdgmaaGreatDoor

/- Layer 12: series that are told, only read; the document's Get of them, walked. -/
import Derived.Test.YteheojiokbdgmaaGreatDoorMIY9
import Derived.Test.YteheojiokbdgmaaGreatDoorMT0
namespace Go.Proofs.YteheojiokbdgmaaGreatDoor
open Go.RowKit Go.Lib
set_option linter.unusedVariables false

theorem sxc_at : ∀ (l : List Sx) (i : Nat) (q : Sx), l[i]? = some q → (sxc l)[i * 2]? = some (.int .i64 q.n) ∧ (sxc l)[i * 2 + 1]? = some q.v
  | [], i, z, h => by simp at h
  | y :: l, 0, z, h => by
    simp only [List.getElem?_cons_zero, Option.some.injEq] at h
    subst h
    exact ⟨rfl, rfl⟩
  | y :: l, i + 1, z, h => by
    have ih := sxc_at l i z (by simpa using h)
    rw [show (i + 1) * 2 = i * 2 + 1 + 1 by omega]
    show ([Value.int .i64 y.n, y.v] ++ sxc l)[i * 2 + 1 + 1]? = _ ∧ ([Value.int .i64 y.n, y.v] ++ sxc l)[i * 2 + 1 + 1 + 1]? = _
    simp only [List.cons_append, List.nil_append, List.getElem?_cons_succ]
    exact ih
/-- Series that are told, only read. -/
structure TdR (w : World) (v : Value) (qs : List Sx) : Prop where
  rd : Rd w 2 v qs.length (sxc qs)
  each : ∀ q ∈ qs, Rd w 2 q.v q.ps.length (prc q.ps) ∧ q.ps.length ≤ 10
  len : qs.length ≤ 12
theorem TdR.on {w w' : World} {v : Value} {qs : List Sx} (h : TdR w v qs) (b : Below w.heap.size w w') : TdR w' v qs :=
  ⟨h.rd.on b, fun q hq => ⟨(h.each q hq).1.on b, (h.each q hq).2⟩, h.len⟩
theorem TdW.rd {B : Nat} {o : Own} {w : World} {v : Value} {qs : List Sx} (h : TdW B o w v qs) (hl : qs.length ≤ 12) (hp : ∀ q ∈ qs, q.ps.length ≤ 10) : TdR w v qs :=
  ⟨Rd.of_sl h.sl, fun q hq => ⟨Rd.of_sl (h.each q hq).1, hp q hq⟩, hl⟩
/-- One of them: where it lies, and its labels. -/
theorem TdR.at_ {w : World} {v : Value} {qs : List Sx} (h : TdR w v qs) {i : Nat} {q : Sx} (hq : qs[i]? = some q) : ∃ (g off cap : Nat) (pa : Option Addr) (pc : Nat), v = .slice (some ⟨g, off, none⟩) qs.length cap ∧ q.v = .slice pa q.ps.length pc ∧ g < w.heap.size ∧
    w.cell? ⟨g, off + i * 2, none⟩ = some (.int .i64 q.n) ∧ w.cell? ⟨g, off + i * 2 + 1, none⟩ = some (.slice pa q.ps.length pc) := by
  have hi := (List.getElem?_eq_some_iff.1 hq).1
  obtain ⟨_, a, cap, g, off, rfl, hg, hc⟩ := h.rd
  obtain ⟨rfl, hgl⟩ := hg (by omega)
  obtain ⟨_, pa, pc, _, _, he, _⟩ := (h.each q (List.mem_of_getElem? hq)).1
  obtain ⟨d0, d1⟩ := sxc_at qs i q hq
  refine ⟨g, off, cap, pa, pc, rfl, he, hgl, (hc (i * 2) (by omega)).trans d0, ?_⟩
  rw [Nat.add_assoc, hc (i * 2 + 1) (by omega), d1, he]
theorem Rd.pr_at {w : World} {a : Option Addr} {cap : Nat} {ps : List Pr} (h : Rd w 2 (.slice a ps.length cap) ps.length (prc ps)) {j : Nat} {p : Pr} (hp : ps[j]? = some p) : ∃ g off, a = some ⟨g, off, none⟩ ∧ g < w.heap.size ∧
    w.cell? ⟨g, off + j * 2, none⟩ = some (.string (bs p.n)) ∧ w.cell? ⟨g, off + j * 2 + 1, none⟩ = some (.string (bs p.v)) := by
  have hj := (List.getElem?_eq_some_iff.1 hp).1
  obtain ⟨_, a', cap', g, off, he, hg, hc⟩ := h
  cases he
  obtain ⟨rfl, hgl⟩ := hg (by omega)
  obtain ⟨d0, d1⟩ := prc_at ps j p hp
  exact ⟨g, off, rfl, hgl, (hc (j * 2) (by omega)).trans d0, by rw [Nat.add_assoc]; exact (hc (j * 2 + 1) (by omega)).trans d1⟩
theorem foldB_take {β : Type} (f : List β → Int → Pr → List β) (n : Int) (ps : List Pr) (a : List β) {j : Nat} {p : Pr} (h : ps[j]? = some p) : foldB f n (ps.take (j + 1)) a = f (foldB f n (ps.take j) a) n p := by
  rw [List.take_add_one, h]; exact foldB_snoc f n _ p a
theorem foldD_take {β : Type} (f : List β → Int → Pr → List β) (T : List Sr) {i : Nat} {s : Sr} (h : T[i]? = some s) : foldD f (T.take (i + 1)) = foldB f s.n s.ps (foldD f (T.take i)) := by
  rw [List.take_add_one, h]; exact foldD_snoc f _ s

set_option maxHeartbeats 2000000 in
set_option maxRecDepth 100000 in
theorem rget12_any (v : Value) (qs : List Sx) (x y : List UInt8) (w : World) (h : TdR w v qs) :
    Calls Tryz.prog 10 #[v, .string (bs x), .string (bs y)] w (NewN w (foldD (fG x y) (qs.map Sx.sr))) := by
  have hT := bs_toList
  obtain ⟨T, hTd⟩ : ∃ T, T = qs.map Sx.sr := ⟨_, rfl⟩
  obtain ⟨N, hN⟩ : ∃ N, N = qs.length := ⟨_, rfl⟩
  have hTN : T.length = N := by rw [hTd, List.length_map, hN]
  have hN12 : N ≤ 12 := by rw [hN]; exact h.len
  obtain ⟨_, a, cap, g0, off0, rfl, hg, hc⟩ := h.rd
  rw [← hTd]
  rw [← hN] at h hg
  have HTR := Lib.hid h
  have HTD := Lib.hid hTd
  have HTN := Lib.hid hTN
  have HN := Lib.hid hN
  rw [← hN]
  clear h hTd hTN hN hg hc
  go_enter Tryz.func10, Tryz.ntmps10
  go_wp2_with fail
  go_loopw [7, 15] (fun o' i' wr => ∃ (i M : Nat), i' = .int .i64 i ∧ i ≤ N ∧ M ≤ 10 * i ∧ Hid (M = (foldD (fG x y) (T.take i)).length) ∧ Hid (Sl wr w.heap.size 1 o' M (ic (foldD (fG x y) (T.take i)))) ∧ Below w.heap.size w wr) (fun _ i' _ => N - (RowKit.intOf i').toNat)
  case atStart => exact ⟨0, 0, rfl, by omega, by omega, Lib.hid rfl, Lib.hid (Sl.lit w w.heap.size 1 0 #[] _ (Nat.le_refl _) (by decide) rfl), (Below.refl _ _).alloc (Nat.le_refl _) _⟩
  case round =>
    obtain ⟨W0, rfl⟩ : ∃ W0, W0 = wr := ⟨_, rfl⟩
    obtain ⟨i, M, rfl, hi, hM10, hM, hs, hb⟩ := hrel
    by_cases hlt : i < N
    · obtain ⟨q, hq⟩ : ∃ q, qs[i]? = some q := ⟨qs[i]'(by have := HN.out; omega), List.getElem?_eq_getElem (by have := HN.out; omega)⟩
      have R0 := HTR.out.on hb
      obtain ⟨g, off, cap', pa, pc, he, hqv, hgl, r0, r1⟩ := R0.at_ hq
      rw [← HN.out] at he
      cases he
      obtain ⟨hprd, hpl⟩ := R0.each q (List.mem_of_getElem? hq)
      rw [hqv] at hprd
      obtain ⟨K, hK⟩ : ∃ K, K = q.ps.length := ⟨_, rfl⟩
      have HTQ := Lib.hid (show T[i]? = some q.sr by rw [HTD.out, List.getElem?_map, hq]; rfl)
      have HPR := Lib.hid hprd
      rw [← hK] at r1 hpl
      have HK := Lib.hid hK
      obtain ⟨qn, hqn⟩ : ∃ qn, qn = q.n := ⟨_, rfl⟩
      rw [← hqn] at r0
      have HQN := Lib.hid hqn
      have HS := Lib.hid hs.out
      have HM := Lib.hid hM.out
      have HB := Lib.hid hb
      have hil : (i : Int) < N := by omega
      have hbz := hb.size
      obtain ⟨W1, hW1⟩ : ∃ W1, W1 = W0.alloc (.cells #[.int .i64 qn, .slice pa K pc] 31) := ⟨_, rfl⟩
      have hbx : W1.heap[W0.heap.size]? = some (.cells #[.int .i64 qn, .slice pa K pc] 31) := by rw [hW1]; exact heap_alloc_new W0 _
      have b1 : Below W0.heap.size W0 W1 := by rw [hW1]; exact (Below.refl _ _).alloc (Nat.le_refl _) _
      have HBX := Lib.hid hbx
      have B1 := Lib.hid b1
      have HW1 := Lib.hid hW1
      have zW1 : W0.heap.size < W1.heap.size := (Array.getElem?_eq_some_iff.1 hbx).1
      clear hq hqv hprd hK hqn hs hM hb hW1 hbx b1 R0
      go_wp2_with fail
      rw [← HW1.out]
      go_loopw [7, 22] (fun o' j' wr => ∃ (j M2 : Nat), j' = .int .i64 j ∧ j ≤ K ∧ M2 ≤ M + j ∧ Hid (M2 = (foldB (fG x y) q.n (q.ps.take j) (foldD (fG x y) (T.take i))).length) ∧ Hid (Sl wr w.heap.size 1 o' M2 (ic (foldB (fG x y) q.n (q.ps.take j) (foldD (fG x y) (T.take i))))) ∧ Below W1.heap.size W1 wr) (fun _ j' _ => K - (RowKit.intOf j').toNat)
      case atStart => exact ⟨0, M, rfl, by omega, by omega, Lib.hid (by rw [HM.out]; rfl), Lib.hid (by have := HS.out.on B1.out; exact this), Below.refl _ _⟩
      case round =>
        obtain ⟨W2, rfl⟩ : ∃ W2, W2 = wr := ⟨_, rfl⟩
        obtain ⟨j, M2, rfl, hj, hM2, hMd, hs2, hb2⟩ := hrel
        by_cases hjk : j < K
        · obtain ⟨p, hp⟩ : ∃ p, q.ps[j]? = some p := ⟨q.ps[j]'(by have := HK.out; omega), List.getElem?_eq_getElem (by have := HK.out; omega)⟩
          have hb12 : Below W0.heap.size W0 W2 := B1.out.trans (hb2.mono B1.out.size)
          obtain ⟨g2, off2, rfl, hg2, p0, p1⟩ := (HPR.out.on hb12).pr_at hp
          have hbx2 : W2.heap[W0.heap.size]? = some (.cells #[.int .i64 qn, .slice (some ⟨g2, off2, none⟩) K pc] 31) := (hb2.block _ zW1).trans HBX.out
          have k0 : W2.cell? ⟨W0.heap.size, 0, none⟩ = some (.int .i64 qn) := Lib.cell_of_heap hbx2 0
          have HT2 := Lib.hid (foldB_take (fG x y) q.n q.ps (foldD (fG x y) (T.take i)) hp)
          obtain ⟨F, hF⟩ : ∃ F, F = foldB (fG x y) q.n (q.ps.take j) (foldD (fG x y) (T.take i)) := ⟨_, rfl⟩
          have HMd := Lib.hid (show M2 = F.length by rw [hF]; exact hMd.out)
          have HS2 := Lib.hid (show Sl W2 w.heap.size 1 u7 M2 (ic F) by rw [hF]; exact hs2.out)
          rw [← hF] at HT2
          have hji : (j : Int) < K := by omega
          have zW2 : W0.heap.size < W2.heap.size := Nat.lt_of_lt_of_le zW1 hb2.size
          have HB2 := Lib.hid hb2
          obtain ⟨W3, hW3⟩ : ∃ W3, W3 = W2.alloc (.cells #[.string (bs p.n), .string (bs p.v)] 34) := ⟨_, rfl⟩
          have b3 : Below W2.heap.size W2 W3 := by rw [hW3]; exact (Below.refl _ _).alloc (Nat.le_refl _) _
          have B3 := Lib.hid b3
          have HW3 := Lib.hid hW3
          clear hp hb12 hbx2 hF hMd hs2 hb2 hW3
          by_cases he1 : p.n = x
          · have hbq : (p.n == x) = true := by simpa using he1
            by_cases he2 : p.v = y
            · have hbq2 : (p.v == y) = true := by simpa using he2
              have HQ := Lib.hid (show fG x y F q.n p = putZ F qn by unfold fG; rw [if_pos ⟨he1, he2⟩, HQN.out])
              have PUT := Lib.hid (rput_any u7 F qn W3 (by have := HS2.out.on b3; rw [HMd.out] at this; exact Ns.of_sl this (by have := HMd.out; omega)))
              rw [HW3.out] at PUT
              clear he1 he2 b3
              go_wp2_with fail
              refine PUT.out.mono ?_
              rintro e W4 ⟨v4, rfl, s4, b4⟩
              rw [← HW3.out] at s4 b4
              have hz4 : w.heap.size ≤ W3.heap.size := by have := B3.out.size; have := HB2.out.size; have := B1.out.size; omega
              have FF := Lib.hid (show (foldB (fG x y) q.n (q.ps.take (j + 1)) (foldD (fG x y) (T.take i))) = putZ F qn by rw [HT2.out, HQ.out])
              have BB := Lib.hid (HB2.out.trans ((B3.out.trans (b4.mono B3.out.size)).mono HB2.out.size))
              have S4 := Lib.hid (s4.mono hz4)
              have hpl2 := putZ_len F qn
              rw [← HMd.out] at hpl2
              clear s4 b4 hz4
              go_wp2_with fail
              exact ⟨⟨j + 1, (putZ F qn).length, by simp, by omega, by omega, Lib.hid (by rw [FF.out]), Lib.hid (by rw [FF.out]; exact S4.out), BB.out⟩, by simp [RowKit.intOf]; omega⟩
            · have hbq2 : (p.v == y) = false := by simpa using he2
              have HQ := Lib.hid (show fG x y F q.n p = F by unfold fG; rw [if_neg (fun h => he2 h.2)])
              clear he1 he2 b3
              go_wp2_with fail
              rw [← HW3.out]
              exact ⟨⟨j + 1, M2, by simp, by omega, by omega, Lib.hid (by rw [HT2.out, HQ.out]; exact HMd.out), Lib.hid (by rw [HT2.out, HQ.out]; exact HS2.out.on B3.out), HB2.out.trans (B3.out.mono HB2.out.size)⟩, by simp [RowKit.intOf]; omega⟩
          · have hbq : (p.n == x) = false := by simpa using he1
            have HQ := Lib.hid (show fG x y F q.n p = F by unfold fG; rw [if_neg (fun h => he1 h.1)])
            clear he1 b3
            go_wp2_with fail
            rw [← HW3.out]
            exact ⟨⟨j + 1, M2, by simp, by omega, by omega, Lib.hid (by rw [HT2.out, HQ.out]; exact HMd.out), Lib.hid (by rw [HT2.out, HQ.out]; exact HS2.out.on B3.out), HB2.out.trans (B3.out.mono HB2.out.size)⟩, by simp [RowKit.intOf]; omega⟩
        · have hjk2 : ¬ (j : Int) < K := by omega
          have FF := Lib.hid (show foldD (fG x y) (T.take (i + 1)) = foldB (fG x y) q.n (q.ps.take j) (foldD (fG x y) (T.take i)) by
            rw [foldD_take _ _ HTQ.out, show q.ps.take j = q.ps from List.take_of_length_le (by have := HK.out; omega)]; rfl)
          have BB := Lib.hid (HB.out.trans ((B1.out.trans (hb2.mono B1.out.size)).mono hbz))
          have HS3 := Lib.hid hs2.out
          have HM3 := Lib.hid hMd.out
          clear hs2 hMd hb2
          go_wp2_with fail
          exact ⟨⟨i + 1, M2, by simp, by omega, by omega, Lib.hid (by rw [FF.out]; exact HM3.out), Lib.hid (by rw [FF.out]; exact HS3.out), BB.out⟩, by simp [RowKit.intOf]; omega⟩
    · obtain rfl : i = N := by omega
      have hil : ¬ (i : Int) < i := by omega
      have FF := Lib.hid (show NewN w (foldD (fG x y) T) (.returned u7) W0 from by
        have h1 := hs.out
        have h2 := hM.out
        rw [List.take_of_length_le (by have := HTN.out; omega)] at h1 h2
        exact ⟨_, rfl, by rw [← h2]; exact h1, hb⟩)
      clear hs hM hb
      go_wp2_with fail
      go_ret
      exact FF.out
end Go.Proofs.YteheojiokbdgmaaGreatDoor

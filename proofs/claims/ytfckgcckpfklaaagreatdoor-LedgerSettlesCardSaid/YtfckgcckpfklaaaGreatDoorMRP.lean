/- Layer 14, rows: the library's Push over the front; put; walked. Layer 14, rows: the library's Pop over the front, walked. Layer 14, rows: which place comes first, in plain words; a front that is a heap. Layer 14, rows: put; walked. -/
import Derived.Test.YtfckgcckpfklaaaGreatDoorMAM
import Derived.Test.YtfckgcckpfklaaaGreatDoorMRM
import Derived.Test.YtfckgcckpfklaaaGreatDoorMAR
namespace Go.Proofs.YtfckgcckpfklaaaGreatDoor
open Go.RowKit Go.Lib Hp
set_option linter.unusedVariables false

theorem mPush_SR (k F : Nat) (W : World) : (method (k + 1) 104 (.pointer (some ⟨F, 0, none⟩)) "Push").run Tryz.prog W = .ok (157, .pointer (some ⟨F, 0, none⟩)) W := by kernel_rfl
theorem mLen_SR (k F : Nat) (W : World) : (method (k + 1) 104 (.pointer (some ⟨F, 0, none⟩)) "Len").run Tryz.prog W = .ok (51, .pointer (some ⟨F, 0, none⟩)) W := by kernel_rfl
theorem mPop_SR (k F : Nat) (W : World) : (method (k + 1) 104 (.pointer (some ⟨F, 0, none⟩)) "Pop").run Tryz.prog W = .ok (156, .pointer (some ⟨F, 0, none⟩)) W := by kernel_rfl
theorem flen_FrSR {w0 w : World} {F n : Nat} {P f : Nat → Nat} {rv : Value} {cur : Nat → List Rq} {iv : Nat → Value} (h : FrSR w0 w F P rv n f cur iv) :
    Calls Tryz.prog 51 #[.pointer (some ⟨F, 0, none⟩)] w fun e w' => e = .returned (.int .i64 n) ∧ w = w' := by
  obtain ⟨ra, rc, er⟩ := h.sl.slice
  subst er
  have c := Lib.cell_of_heap h.box 0
  exact flen_SR F n rc ra w (by simpa using c)

set_option maxHeartbeats 2000000 in
set_option maxRecDepth 100000 in
theorem hpush_FrSR {w0 w : World} {F n p : Nat} {P f : Nat → Nat} {rv : Value} {cur : Nat → List Rq} {iv : Nat → Value} (h : FrSR w0 w F P rv n f cur iv) (hn : n ≤ 100000)
    (hr : w.heap[P p]? = some (.cells #[.int .i64 p, iv p] 111) ∧ F < P p ∧ RdQ w0 (iv p) (cur p) ∧ 0 < (cur p).length) (ho : ∀ g, rv.ownBlock = some g → P p ≠ g) :
    Calls Tryz.prog 71 #[.iface 104 (.pointer (some ⟨F, 0, none⟩)), .iface 109 (.pointer (some ⟨P p, 0, none⟩))] w fun e w' => e = .returned (.tuple #[]) ∧ ∃ rv', FrSR w0 w' F P rv' (n + 1) (up (ltSR cur) (snocF f n p) n) cur iv ∧ Bk F rv w w' ∧ ∀ g, rv'.ownBlock = some g → rv.ownBlock = some g ∨ w.heap.size ≤ g := by
  have PU := Lib.hid (fpush_FrSR h (by omega) hr ho)
  have mP := fun k W => mPush_SR k F W
  have mL := fun k W => mLen_SR k F W
  obtain ⟨q, hq⟩ : ∃ q, q = P p := ⟨_, rfl⟩
  rw [← hq] at PU ⊢
  have hF : F ≤ w.heap.size := Nat.le_of_lt (Array.getElem?_eq_some_iff.1 h.box).1
  clear h hr ho hq
  go_enter Tryz.func71, Tryz.ntmps71
  go_wp2_with fail
  refine PU.out.mono ?_
  rintro e w1 ⟨rfl, rv', f1, b1, o1⟩
  have LN := Lib.hid (flen_FrSR f1)
  have UP := Lib.hid (up_FrSR f1 n (by omega) (by omega))
  have B1 := Lib.hid b1
  have O1 := Lib.hid o1
  clear f1 b1 PU o1
  go_wp2_with fail
  refine LN.out.mono ?_
  rintro e w2 ⟨rfl, rfl⟩
  go_wp2_with fail
  refine UP.out.mono ?_
  rintro e w3 ⟨rfl, f3, b3⟩
  go_wp2
  go_end0
  refine ⟨rfl, rv', f3, ⟨B1.out.b.trans b3.b, fun b h1 h2 h3 => (b3.k b (Nat.lt_of_lt_of_le h1 B1.out.b.size) h2 (fun g hg e => ?_)).trans (B1.out.k b h1 h2 h3)⟩, O1.out⟩
  rcases O1.out g hg with h | h
  · exact h3 g h e
  · omega
end Go.Proofs.YtfckgcckpfklaaaGreatDoor

namespace Go.Proofs.YtfckgcckpfklaaaGreatDoor
open Go.RowKit Go.Lib Hp
set_option linter.unusedVariables false

set_option maxHeartbeats 2000000 in
set_option maxRecDepth 100000 in
theorem fpop_FrSR {w0 w : World} {F m : Nat} {P f : Nat → Nat} {rv : Value} {cur : Nat → List Rq} {iv : Nat → Value} (h : FrSR w0 w F P rv (m + 1) f cur iv) (hm : m ≤ 100000) :
    Calls Tryz.prog 156 #[.pointer (some ⟨F, 0, none⟩)] w fun e w' => e = .returned (.iface 109 (.pointer (some ⟨P (f m), 0, none⟩))) ∧ ∃ rv', FrSR w0 w' F P rv' m f cur iv ∧ Bk F rv w w' ∧ rv'.ownBlock = rv.ownBlock := by
  have hF : F < w.heap.size := (Array.getElem?_eq_some_iff.1 h.box).1
  obtain ⟨G, o, cp, he, hGb, hncp, hcpm⟩ := h.sl.somewhere (by omega)
  subst he
  have cm := h.sl.cells (m * 1) _ (by rw [Nat.mul_one]; exact ptc_at P f (m + 1) m (by omega))
  rw [Addr.add_lit, Nat.mul_one] at cm
  have c0 := Lib.cell_of_heap h.box 0
  have f0 := Lib.frozen_of_heap h.box 0
  simp at c0
  obtain ⟨q, hq⟩ : ∃ q, q = P (f m) := ⟨_, rfl⟩
  rw [← hq] at cm ⊢
  have FIN := Lib.hid (show ∃ rv', FrSR w0 (w.setCell ⟨F, 0, none⟩ (.slice (some ⟨G, o, none⟩) m cp)) F P rv' m f cur iv ∧ Bk F (.slice (some ⟨G, o, none⟩) (m + 1) cp) w (w.setCell ⟨F, 0, none⟩ (.slice (some ⟨G, o, none⟩) m cp)) ∧ rv'.ownBlock = (Value.slice (some ⟨G, o, none⟩) (m + 1) cp).ownBlock from by
    have hb : Below F w (w.setCell ⟨F, 0, none⟩ (.slice (some ⟨G, o, none⟩) m cp)) := (Below.refl F w).setCell (p := ⟨F, 0, none⟩) (Nat.le_refl _) _
    have hlt : ∀ p, Has f m p → Has f (m + 1) p := fun p ⟨k, hk, e⟩ => ⟨k, by omega, e⟩
    refine ⟨.slice (some ⟨G, o, none⟩) m cp, ⟨?_, sl_else (sl_cut14 h.sl) _ _ (by simp), fun g hg p hp => h.own g hg p (hlt p hp), fun p hp => ?_, h.below.trans (hb.mono h.big), h.big⟩, ⟨hb, fun b _ hbF _ => by rw [Below.heap_setCell _ _ _ _ (by simp only; omega)]⟩, rfl⟩
    · rw [heap_setCell_same w F 0 _ _ (.slice (some ⟨G, o, none⟩) m cp) h.box]; rfl
    · obtain ⟨r1, r2, r3, r4⟩ := h.rest p (hlt p hp)
      refine ⟨?_, r2, r3, r4⟩
      rw [Below.heap_setCell _ _ _ _ (by simp only; omega)]
      exact r1)
  have e1 : ((m + 1 : Nat) : Int) - 1 = (m : Int) := by omega
  have i1 : (m : Int) < (m : Int) + 1 := by omega
  have hmc : m ≤ cp := by omega
  have hmc2 : (m : Int) ≤ (cp : Int) := by omega
  clear h hq
  go_enter Tryz.func156, Tryz.ntmps156
  go_wp2
  go_ret
  exact ⟨rfl, FIN.out⟩

set_option maxHeartbeats 2000000 in
set_option maxRecDepth 100000 in
theorem hpop_FrSR {w0 w : World} {F m : Nat} {P f : Nat → Nat} {rv : Value} {cur : Nat → List Rq} {iv : Nat → Value} (h : FrSR w0 w F P rv (m + 1) f cur iv) (hm : m ≤ 100000) :
    Calls Tryz.prog 52 #[.iface 104 (.pointer (some ⟨F, 0, none⟩))] w fun e w' => e = .returned (.iface 109 (.pointer (some ⟨P (f 0), 0, none⟩))) ∧ ∃ rv', FrSR w0 w' F P rv' m (popF (ltSR cur) f m) cur iv ∧ Bk F rv w w' ∧ rv'.ownBlock = rv.ownBlock := by
  have LN := Lib.hid (flen_FrSR h)
  have SW := Lib.hid (fswap_FrSR h 0 m (by omega) (by omega))
  have mS := fun k W => mSwap_SR k F W
  have mL := fun k W => mLen_SR k F W
  have mO := fun k W => mPop_SR k F W
  obtain ⟨q, hq⟩ : ∃ q, q = P (f 0) := ⟨_, rfl⟩
  have HQ := Lib.hid hq
  rw [← hq]
  have e1 : ((m + 1 : Nat) : Int) - 1 = (m : Int) := by omega
  clear h hq
  go_enter Tryz.func52, Tryz.ntmps52
  go_wp2_with fail
  refine LN.out.mono ?_
  rintro e w1 ⟨rfl, rfl⟩
  clear LN
  go_wp2_with fail
  refine SW.out.mono ?_
  rintro e w2 ⟨rfl, f2, b2⟩
  have B2 := Lib.hid b2
  have DN := Lib.hid (down_FrSR f2 0 m (by omega) (by omega) (by omega))
  clear f2 b2 SW
  go_wp2_with fail
  refine DN.out.mono ?_
  rintro e w3 ⟨⟨b, rfl⟩, f3, b3⟩
  have B3 := Lib.hid (B2.out.trans b3)
  have PO := Lib.hid (show Calls Tryz.prog 156 #[.pointer (some ⟨F, 0, none⟩)] w3 (fun e w' => e = .returned (.iface 109 (.pointer (some ⟨q, 0, none⟩))) ∧ ∃ rv', FrSR w0 w' F P rv' m (popF (ltSR cur) f m) cur iv ∧ Bk F rv w3 w' ∧ rv'.ownBlock = rv.ownBlock) by
    have h := fpop_FrSR (f := popF (ltSR cur) f m) f3 hm
    rw [popF_out, ← HQ.out] at h
    exact h)
  clear f3 b3 DN B2
  go_wp2_with fail
  refine PO.out.mono ?_
  rintro e w4 ⟨rfl, rv', f4, b4, o4⟩
  go_wp2
  go_ret
  exact ⟨rfl, rv', f4, B3.out.trans b4, o4⟩
end Go.Proofs.YtfckgcckpfklaaaGreatDoor

namespace Go.Proofs.YtfckgcckpfklaaaGreatDoor
open Go.RowKit Go.Lib Hp
set_option linter.unusedVariables false

theorem ltS_iffR (cur : Nat → List Rq) (p q : Nat) : ltSR cur p q = true ↔ cmpS ((cur p).headD default).r.ls ((cur q).headD default).r.ls < 0 ∨ (cmpS ((cur p).headD default).r.ls ((cur q).headD default).r.ls = 0 ∧ p < q) := by
  unfold ltSR orI cmpI
  rw [decide_eq_true_iff]
  generalize cmpS ((cur p).headD default).r.ls ((cur q).headD default).r.ls = c
  by_cases h0 : c = 0
  · subst h0
    by_cases h3 : (p : Int) < q
    · have : p < q := by omega
      simp [h3, this]
    · have : ¬ p < q := by omega
      by_cases h4 : (q : Int) < p
      · simp [h3, h4, this]
      · simp [h3, h4, this]
  · simp [h0]
theorem ltS_notR (cur : Nat → List Rq) (p q : Nat) : ltSR cur p q = false ↔ ¬ (cmpS ((cur p).headD default).r.ls ((cur q).headD default).r.ls < 0 ∨ (cmpS ((cur p).headD default).r.ls ((cur q).headD default).r.ls = 0 ∧ p < q)) := by
  rw [← ltS_iffR]
  simp
theorem ltS_swoR (cur : Nat → List Rq) : Swo (ltSR cur) := by
  refine ⟨fun a b h => ?_, fun a b c h1 h2 => ?_⟩
  · rw [ltS_iffR] at h
    rw [ltS_notR, cmpS_neg]
    omega
  · rw [ltS_notR] at h1 h2 ⊢
    generalize ((cur a).headD default).r.ls = x at *
    generalize ((cur b).headD default).r.ls = y at *
    generalize ((cur c).headD default).r.ls = z at *
    have e1 := cmpS_neg x y
    have e2 := cmpS_neg y z
    have e3 := cmpS_neg x z
    have t1 := cmpS_trans z y x
    have t2 := cmpS_trans y z x
    have t3 := cmpS_trans z x y
    have t4 := cmpS_trans x z y
    have t5 := cmpS_trans y x z
    have t6 := cmpS_trans x y z
    have v1 := cmpS_val x y
    have v2 := cmpS_val y z
    have v3 := cmpS_val x z
    omega
theorem ltS_irrR (cur : Nat → List Rq) (p : Nat) : ltSR cur p p = false := by rw [ltS_notR, cmpS_self]; omega
theorem ltS_totR {cur : Nat → List Rq} {p q : Nat} (h1 : ltSR cur p q = false) (h2 : ltSR cur q p = false) : p = q := by
  rw [ltS_notR] at h1 h2
  have := cmpS_neg ((cur p).headD default).r.ls ((cur q).headD default).r.ls
  omega
end Go.Proofs.YtfckgcckpfklaaaGreatDoor

namespace Go.Proofs.YtfckgcckpfklaaaGreatDoor
open Go.RowKit Go.Lib Hp
set_option linter.unusedVariables false

/-- How many there are behind a put, and in which order. -/
def putNR (cur : Nat → List Rq) (n p : Nat) : Nat := if (cur p).length = 0 then n else n + 1
def putFR (cur : Nat → List Rq) (f : Nat → Nat) (n p : Nat) : Nat → Nat := if (cur p).length = 0 then f else up (ltSR cur) (snocF f n p) n

set_option maxHeartbeats 2000000 in
set_option maxRecDepth 100000 in
theorem put_FrSR {w0 w : World} {F n p : Nat} {P f : Nat → Nat} {rv : Value} {cur : Nat → List Rq} {iv : Nat → Value} (h : FrSR w0 w F P rv n f cur iv) (hn : n ≤ 100000)
    (hr : w.heap[P p]? = some (.cells #[.int .i64 p, iv p] 111) ∧ F < P p ∧ RdQ w0 (iv p) (cur p)) (ho : ∀ g, rv.ownBlock = some g → P p ≠ g) :
    Calls Tryz.prog 50 #[.pointer (some ⟨F, 0, none⟩), .pointer (some ⟨P p, 0, none⟩)] w fun e w' => e = .returned (.tuple #[]) ∧ ∃ rv', FrSR w0 w' F P rv' (putNR cur n p) (putFR cur f n p) cur iv ∧ Bk F rv w w' ∧ ∀ g, rv'.ownBlock = some g → rv.ownBlock = some g ∨ w.heap.size ≤ g := by
  obtain ⟨r1, r2, r3⟩ := hr
  obtain ⟨a, c, ei⟩ := r3.slice
  have r1' := r1
  rw [ei] at r1'
  have c1 := Lib.cell_of_heap r1' 1
  simp at c1
  obtain ⟨q, hq⟩ : ∃ q, q = P p := ⟨_, rfl⟩
  by_cases h0 : (cur p).length = 0
  · have FIN := Lib.hid (show ∃ rv', FrSR w0 w F P rv' (putNR cur n p) (putFR cur f n p) cur iv ∧ Bk F rv w w ∧ ∀ g, rv'.ownBlock = some g → rv.ownBlock = some g ∨ w.heap.size ≤ g by
      refine ⟨rv, ?_, Bk.refl _ _ _, fun g hg => .inl hg⟩
      unfold putNR putFR
      rw [if_pos h0, if_pos h0]
      exact h)
    rw [← hq] at c1 ⊢
    rw [h0] at c1
    clear h r1 r1' r3 ei ho hq h0 r2
    go_enter Tryz.func50, Tryz.ntmps50
    go_wp2
    go_end0
    exact ⟨rfl, FIN.out⟩
  · have hpos : 0 < (cur p).length := by omega
    have HP := Lib.hid (show Calls Tryz.prog 71 #[.iface 104 (.pointer (some ⟨F, 0, none⟩)), .iface 109 (.pointer (some ⟨P p, 0, none⟩))] w (fun e w' => e = .returned (.tuple #[]) ∧ ∃ rv', FrSR w0 w' F P rv' (putNR cur n p) (putFR cur f n p) cur iv ∧ Bk F rv w w' ∧ ∀ g, rv'.ownBlock = some g → rv.ownBlock = some g ∨ w.heap.size ≤ g) by
      unfold putNR putFR
      rw [if_neg h0, if_neg h0]
      exact hpush_FrSR h hn ⟨r1, r2, r3, hpos⟩ ho)
    obtain ⟨L, hL⟩ : ∃ L, L = (cur p).length := ⟨_, rfl⟩
    rw [← hq] at c1 HP ⊢
    rw [← hL] at c1 hpos
    clear h r1 r1' r3 ei ho hq h0 r2 hL
    go_enter Tryz.func50, Tryz.ntmps50
    go_wp2_with fail
    refine HP.out.mono ?_
    rintro e w1 ⟨rfl, FIN⟩
    have FIN := Lib.hid FIN
    go_wp2
    go_end0
    exact ⟨rfl, FIN.out⟩
end Go.Proofs.YtfckgcckpfklaaaGreatDoor

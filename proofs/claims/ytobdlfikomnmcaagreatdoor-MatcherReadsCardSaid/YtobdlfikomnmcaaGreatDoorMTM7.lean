/- Layer 13: do all fit a set of labels? -/
import Derived.Test.YtobdlfikomnmcaaGreatDoorMTM6
import Derived.Test.YtobdlfikomnmcaaGreatDoorML9
import Derived.Deep.RegionHeld3
import Derived.Deep.Cut
namespace Go.Proofs.YtobdlfikomnmcaaGreatDoor
open Go.RowKit Go.Lib
set_option linter.unusedVariables false

/-- Matchers that are read. -/
structure MsR (W : World) (v : Value) (l : List (Mr × Value)) : Prop where
  r : Rd W 3 v l.length (mcs l)
  vs : ∀ p ∈ l, Rd W 1 p.2 p.1.vs.length (txs p.1.vs) ∧ p.1.vs.length ≤ 1000000 ∧ p.1.k ≤ 4
theorem MsR.on {W W' : World} {v : Value} {l : List (Mr × Value)} (h : MsR W v l) (b : Below W.heap.size W W') : MsR W' v l := ⟨h.r.on b, fun p hp => ⟨(h.vs p hp).1.on b, (h.vs p hp).2⟩⟩
theorem MsO.rd {W : World} {B : Nat} {v : Value} {l : List (Mr × Value)} (h : MsO W B v l) (hb : ∀ p ∈ l, p.1.vs.length ≤ 1000000 ∧ p.1.k ≤ 4) : MsR W v l := ⟨Rd.of_sl h.1, fun p hp => ⟨Rd.of_sl (h.2 p hp).1, hb p hp⟩⟩
def matchB (ds : List Pr) (ms : List Mr) : Bool := ms.all fun m => fitB m (getP m.n ds)
theorem mcs_at (l : List (Mr × Value)) (i : Nat) (p : Mr × Value) (h : l[i]? = some p) : (mcs l)[i * 3]? = some (.int .i64 p.1.k) ∧ (mcs l)[i * 3 + 1]? = some (.string (bs p.1.n)) ∧ (mcs l)[i * 3 + 2]? = some p.2 := by
  induction l generalizing i with
  | nil => cases h
  | cons a l ih =>
    cases i with
    | zero =>
      obtain rfl : a = p := by simpa using h
      exact ⟨rfl, rfl, rfl⟩
    | succ i =>
      have := ih i (by simpa using h)
      have e : mcs (a :: l) = .int .i64 a.1.k :: .string (bs a.1.n) :: a.2 :: mcs l := rfl
      rw [e, show (i + 1) * 3 = i * 3 + 3 by omega]
      exact this

set_option maxHeartbeats 2000000 in
set_option maxRecDepth 100000 in
theorem match13_any (v u : Value) (ds : List Pr) (l : List (Mr × Value)) (w : World) (h : Rd w 2 v ds.length (prc ds)) (hd : ds.length ≤ 1000000) (hm : MsR w u l) (hl : l.length ≤ 1000000) :
    Calls Tryz.prog 19 #[v, u] w fun e w' => e = .returned (.bool (matchB ds (l.map (·.1)))) ∧ Below w.heap.size w w' := by
  have HM := Lib.hid hm
  have GT := Lib.hid (fun q W (b : Below w.heap.size w W) => get_lb v ds q W (h.on b) hd)
  have FT := Lib.hid (fun p x W (b : Below w.heap.size w W) (hp : p ∈ l) => fits13_any p.1 p.2 x W ((hm.on b).vs p hp).1 (hm.vs p hp).2.1 (hm.vs p hp).2.2)
  obtain ⟨_, a, cap, g, off, rfl, hg, hc⟩ := hm.r
  obtain ⟨_, a2, cap2, g2, off2, rfl, -, -⟩ := h
  obtain ⟨n2, hn2⟩ : ∃ n2, n2 = ds.length := ⟨_, rfl⟩
  rw [← hn2] at GT ⊢
  obtain ⟨n, hn⟩ : ∃ n, n = l.length := ⟨_, rfl⟩
  rw [← hn] at hg hc hl ⊢
  have HN := Lib.hid hn
  have HG := Lib.hid hg
  have HC := Lib.hid hc
  clear hn hg hc hm hn2
  go_enter Tryz.func19, Tryz.ntmps19
  go_wp2_with fail
  go_loopw [9] (fun i' wr => ∃ i : Nat, i' = .int .i64 i ∧ i ≤ n ∧ Hid (matchB ds (l.map (·.1)) = matchB ds ((l.drop i).map (·.1)) ∧ Below w.heap.size w wr)) (fun i' _ => n - (intOf i').toNat)
  case atStart => exact ⟨0, rfl, by omega, Lib.hid ⟨rfl, Below.refl _ _⟩⟩
  case round =>
    obtain ⟨W0, rfl⟩ : ∃ W0, W0 = wr := ⟨_, rfl⟩
    obtain ⟨i, rfl, hi, hk⟩ := hrel
    obtain ⟨he, hb⟩ := hk.out
    by_cases hlt : i < n
    · obtain ⟨rfl, hgl⟩ := HG.out (by omega)
      have hll : i < l.length := by have := HN.out; omega
      have hdr : l.drop i = l[i] :: l.drop (i + 1) := List.drop_eq_getElem_cons hll
      have hx0 : l[i]? = some l[i] := List.getElem?_eq_getElem hll
      have hpm : l[i] ∈ l := List.getElem_mem hll
      obtain ⟨p, hp⟩ : ∃ p, l[i] = p := ⟨_, rfl⟩
      rw [hp] at hdr hx0 hpm
      obtain ⟨m0, m1, m2⟩ := mcs_at l i p hx0
      have hz : ∀ j, j < n * 3 → W0.cell? ⟨g, off + j, none⟩ = (mcs l)[j]? := fun j hj => (hb.cell (p := ⟨g, off + j, none⟩) hgl).trans (HC.out j hj)
      have q0 := (hz (i * 3) (by omega)).trans m0
      have q1 := (hz (i * 3 + 1) (by omega)).trans m1
      have q2 := (hz (i * 3 + 2) (by omega)).trans m2
      rw [← Nat.add_assoc] at q1 q2
      obtain ⟨rp, hp1, hp2⟩ := HM.out.vs p hpm
      obtain ⟨_, a3, cap3, g3, off3, hv3, -, -⟩ := rp
      rw [hv3] at q2
      have hil : (i : Int) < n := by omega
      rw [hdr] at he
      unfold matchB at he
      rw [List.map_cons, List.all_cons] at he
      have FP := Lib.hid (fun x W b => FT.out p x W b hpm)
      unfold mrV at FP
      rw [hv3] at FP
      obtain ⟨x, hx⟩ : ∃ x, getP p.1.n ds = x := ⟨_, rfl⟩
      rw [hx] at he
      obtain ⟨ft, hft⟩ : ∃ ft, fitB p.1 x = ft := ⟨_, rfl⟩
      rw [hft] at he
      have HE := Lib.hid he
      have GP := Lib.hid (fun W b => GT.out p.1.n W b)
      rw [hx] at GP
      have FX := Lib.hid (fun W b => FP.out x W b)
      rw [hft] at FX
      obtain ⟨nm, hnm⟩ : ∃ nm, nm = p.1.n := ⟨_, rfl⟩
      obtain ⟨kk, hkk⟩ : ∃ kk : Nat, kk = p.1.k := ⟨_, rfl⟩
      obtain ⟨nv, hnv⟩ : ∃ nv : Nat, nv = p.1.vs.length := ⟨_, rfl⟩
      rw [← hnm] at q1 GP FX
      rw [← hkk] at q0 FX
      rw [← hnv] at q2 FX
      obtain ⟨W1, hW1⟩ : ∃ W1, W1 = W0.alloc (.cells #[.int .i64 kk, .string (bs nm), .slice a3 nv cap3] 24) := ⟨_, rfl⟩
      have hh := heap_alloc_new W0 (.cells #[.int .i64 kk, .string (bs nm), .slice a3 nv cap3] 24)
      rw [← hW1] at hh
      have d0 := Lib.cell_of_heap hh 0; have d1 := Lib.cell_of_heap hh 1; have d2 := Lib.cell_of_heap hh 2
      simp at d0 d1 d2
      have bW1 : Below w.heap.size w W1 := by rw [hW1]; exact hb.alloc hb.size _
      have z1 : W0.heap.size < W1.heap.size := by rw [hW1]; simp
      have G1 := Lib.hid (fun W (b : Below W1.heap.size W1 W) => GP.out W (bW1.trans (b.mono bW1.size)))
      have F1 := Lib.hid (fun W (b : Below W1.heap.size W1 W) => FX.out W (bW1.trans (b.mono bW1.size)))
      have B1 := Lib.hid bW1
      have BD := (Below.refl W1.heap.size W1).drew
      have HW1 := Lib.hid hW1
      clear he hk hb hdr hx0 hpm m0 m1 m2 hz hp1 hp2 hv3 FP hx hft GP FX hnm hkk hnv hW1 hh bW1 FT GT hp
      go_upto_region 4 with fail
      rw [← HW1.out]
      clear q0 q1 q2
      go_region_held3 (fun W => W.cell? ⟨W0.heap.size, 0, none⟩ = some (.int .i64 kk) ∧ W.cell? ⟨W0.heap.size, 1, none⟩ = some (.string (bs nm)) ∧ W.cell? ⟨W0.heap.size, 2, none⟩ = some (.slice a3 nv cap3)) (first | exact ⟨d0, d1, d2⟩ | exact kp | exact kq | assumption | fail)
        (first
          | (go_at_call 32; refine (G1.out _ BD).mono ?_; rintro e W2 ⟨rfl, b2⟩; have B2 := BD.trans (b2.mono (by exact Nat.le_refl _)); have kp := And.intro ((b2.cell (p := ⟨W0.heap.size, 0, none⟩) z1).trans d0) (And.intro ((b2.cell (p := ⟨W0.heap.size, 1, none⟩) z1).trans d1) ((b2.cell (p := ⟨W0.heap.size, 2, none⟩) z1).trans d2)))
          | (go_at_call 20; (first | refine (F1.out _ B2).mono ?_ | refine (F1.out _ B2.drew).mono ?_); rintro e W3 ⟨rfl, b3⟩; have B3 := B2.trans (b3.mono B2.size); have zz := Nat.lt_of_lt_of_le z1 B2.size; have kq := And.intro ((b3.cell (p := ⟨W0.heap.size, 0, none⟩) zz).trans kp.1) (And.intro ((b3.cell (p := ⟨W0.heap.size, 1, none⟩) zz).trans kp.2.1) ((b3.cell (p := ⟨W0.heap.size, 2, none⟩) zz).trans kp.2.2)))
          | fail)
      have BF := Lib.hid (B1.out.trans (B3.mono B1.out.size))
      cases ft with
      | false =>
        have HE2 := Lib.hid (show matchB ds (l.map (·.1)) = false from HE.out.trans (Bool.false_and _))
        clear HE
        go_wp2_with fail
        go_ret
        exact ⟨by rw [HE2.out]; rfl, BF.out⟩
      | true =>
        have HE2 := Lib.hid (show matchB ds (l.map (·.1)) = matchB ds ((l.drop (i + 1)).map (·.1)) from HE.out.trans (Bool.true_and _))
        clear HE
        go_wp2_with fail
        exact ⟨⟨i + 1, by go_num, by omega, Lib.hid ⟨HE2.out, BF.out⟩⟩, by simp [intOf]; omega⟩
    · have hil : ¬ (i : Int) < n := by omega
      have HK := Lib.hid (show matchB ds (l.map (·.1)) = true by
        rw [he, show i = l.length by have := HN.out; omega, List.drop_length]; rfl)
      have HB := Lib.hid hb
      clear hk he hb
      go_wp2_with fail
      go_ret
      exact ⟨by rw [HK.out]; rfl, HB.out⟩
end Go.Proofs.YtobdlfikomnmcaaGreatDoor

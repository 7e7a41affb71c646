/- The document's disk: Do at kind 2: a file synced. -/
import Derived.Test.YtnjoojffefhgpaaMJ6
namespace Go.Proofs.Ytnjoojffefhgpaa
open Go.Conc Go.RowKit Go.Lib
set_option linter.unusedVariables false

def synR (k : ByteArray) (xs : List Rj) (A : List Ft) : List Rj × List Ft × Int := match atR k xs with
  | none => (xs, A, 5)
  | some x => triedR (withR ⟨x.name, x.data, (x.data.size : Int)⟩ xs) xs A

set_option maxHeartbeats 4000000 in
set_option maxRecDepth 100000 in
theorem rdo2_any (base : Nat) (v : Value) (rm : Int) (u : Value) (xs : List Rj) (A : List Ft) (name s : ByteArray) (w : World) (hs : Sl w base 3 v xs.length (rjc xs)) (hlen : xs.length ≤ 900) (hu : Sl w base 2 u A.length (ftc A)) (hb : base ≤ w.heap.size) (hA : A.length ≤ 101) (hf : ∀ x ∈ A, Ft.Fits x) (hd : ∀ x ∈ xs, x.data.size ≤ 1000000) :
    Calls Try.prog 31 #[rdv v rm u, .int .i64 2, .string name, .string s] w (DoP base w v u rm (synR name xs A)) := by
  obtain ⟨D, hD⟩ : ∃ D, D = synR name xs A := ⟨_, rfl⟩
  rw [← hD]
  have D0 := Lib.hid (DB.start base v u rm xs A w hs hu)
  obtain ⟨va, vc, ev⟩ := hs.slice
  obtain ⟨ua, uc, eu⟩ := hu.slice
  obtain ⟨vn, hvn⟩ : ∃ n, n = xs.length := ⟨_, rfl⟩
  obtain ⟨un, hun⟩ : ∃ n, n = A.length := ⟨_, rfl⟩
  rw [← hvn] at ev
  rw [← hun] at eu
  subst ev eu
  obtain ⟨V, hV⟩ : ∃ V, V = (w.alloc (.cells #[.slice va vn vc, .int .i64 rm, .slice ua un uc] 30)).alloc (.cells #[.slice none 0 0, .int .i64 0, .slice none 0 0] 30) := ⟨_, rfl⟩
  rw [← hV] at D0
  have FD := Lib.hid (dfind_any base (.slice va vn vc) rm (.slice ua un uc) xs name V (hs.on D0.out.below) (by omega) ⟨_, _, _, rfl⟩)
  have HT := Lib.hid (fun W u' A' (h : Sl W base 2 u' A'.length (ftc A')) (hz : base ≤ W.heap.size) (hA : A'.length ≤ 101) (hf : ∀ x ∈ A', Ft.Fits x) => rtry_own base u' A' W h hz hA hf)
  have RW := Lib.hid (fun W v' u' xs' (h : Sl W base 3 v' xs'.length (rjc xs')) (hl : xs'.length ≤ 900) hu' => rdrop_any base v' rm u' xs' name W h (by omega) hu')
  have RS := Lib.hid (fun W b2 v' u' xs' (y : Rj) (h : Sl W b2 3 v' xs'.length (rjc xs')) (hl : xs'.length ≤ 900) hu' => rset_any b2 v' rm u' xs' y W h hl hu')
  have HDS := Lib.hid hd
  have HA := Lib.hid hA
  have HF := Lib.hid hf
  have HL := Lib.hid hlen
  have HB := Lib.hid hb
  have HVN := Lib.hid hvn
  have HUN := Lib.hid hun
  have HV := Lib.hid hV
  have c0 := D0.out.c0
  have c1 := D0.out.c1
  have c2 := D0.out.c2
  clear hs hlen hu hb hA hf hvn hun hV
  unfold rdv
  unfold rdv at FD HT RW RS
  go_enter Try.func31, Try.ntmps31
  go_upto_region 1 with fail
  rw [← HV.out]
  go_wp2_with fail
  refine FD.out.mono ?_
  rintro e w1 ⟨rfl, b1⟩
  have D1 := Lib.hid (D0.out.on b1)
  clear b1 c0 c1 c2
  have c0 := D1.out.c0
  have c1 := D1.out.c1
  have c2 := D1.out.c2
  have r0 := D1.out.r0
  have r1 := D1.out.r1
  have r2 := D1.out.r2
  have f0 := D1.out.fb 0
  have f1 := D1.out.fb 1
  have f2 := D1.out.fb 2
  have g0 := D1.out.fr 0
  have g1 := D1.out.fr 1
  have g2 := D1.out.fr 2
  cases hi : idxR name xs with
  | none =>
    have e1 : findR name xs = -1 := by unfold findR; rw [hi]
    have eD : D = (xs, A, 5) := by rw [hD]; unfold synR atR; rw [hi]; rfl
    rw [e1]
    clear hD
    subst eD
    clear hi e1
    go_wp2_with fail
    go_quiet (fail)
    go_wp2_with fail
    obtain ⟨W6, hW6⟩ : ∃ W6, W6 = (((w1.drewN nq).setCell ⟨w.heap.size + 1, 0, none⟩ (.slice va vn vc)).setCell ⟨w.heap.size + 1, 1, none⟩ (.int .i64 rm)).setCell ⟨w.heap.size + 1, 2, none⟩ (.slice ua un uc) := ⟨_, rfl⟩
    obtain ⟨k0, k1, k2, ks, kt, ko, kp, kb⟩ := DB.ret (D1.out.on (below_draw (Below.refl w1.heap.size w1) nq)) W6 hW6
    rw [← hW6]
    refine bodyPost_ret (by simp [results, Try.results31, go_sem, k0, k1, k2]; rfl) rfl ?_
    exact ⟨_, _, rfl, ks, kt, ko, kp, kb⟩
  | some i =>
    have hin : i < xs.length := idxR_lt name xs i hi
    obtain ⟨x, hx⟩ : ∃ x, xs[i]? = some x := ⟨xs[i], List.getElem?_eq_getElem hin⟩
    have e1 : findR name xs = (i : Int) := by unfold findR; rw [hi]
    have eA : atR name xs = some x := by unfold atR; rw [hi]; exact hx
    have eD0 : D = synR name xs A := hD
    unfold synR at eD0
    rw [eA] at eD0
    rw [e1]
    clear hD eA
    have hi0 : ¬ (i : Int) < 0 := by omega
    have hi1 : (0 : Int) ≤ i := by omega
    have hiv : (i : Int) < vn := by rw [HVN.out]; omega
    have HX := Lib.hid hx
    clear hi e1 hin hx
    obtain ⟨L2, hL2⟩ : ∃ L2, L2 = withR ⟨x.name, x.data, (x.data.size : Int)⟩ xs := ⟨_, rfl⟩
    have eD : D = triedR L2 xs A := by rw [hL2]; exact eD0
    clear eD0
    unfold triedR at eD
    obtain ⟨wk, hwk⟩ : ∃ wk, wk = (tryL A).1.1 := ⟨_, rfl⟩
    obtain ⟨dn, hdn⟩ : ∃ dn, dn = (tryL A).1.2 := ⟨_, rfl⟩
    obtain ⟨B, hB⟩ : ∃ B, B = (tryL A).2 := ⟨_, rfl⟩
    rw [← hwk, ← hdn, ← hB] at eD
    have ED := Lib.hid eD
    have HL2 := Lib.hid hL2
    clear eD hL2
    go_upto_region 4 with fail
    go_quiet (fail)
    have DQ := Lib.hid (D1.out.on (below_draw (Below.refl w1.heap.size w1) nq))
    obtain ⟨Wq, hWq⟩ : ∃ Wq, Wq = w1.drewN nq := ⟨_, rfl⟩
    rw [← hWq] at DQ ⊢
    clear hWq D1 c0 c1 c2 r0 r1 r2 f0 f1 f2 g0 g1 g2
    have c0 := DQ.out.c0
    have c1 := DQ.out.c1
    have c2 := DQ.out.c2
    have r0 := DQ.out.r0
    have r1 := DQ.out.r1
    have r2 := DQ.out.r2
    have f0 := DQ.out.fb 0
    have f1 := DQ.out.fb 1
    have f2 := DQ.out.fb 2
    have g0 := DQ.out.fr 0
    have g1 := DQ.out.fr 1
    have g2 := DQ.out.fr 2
    have TW := Lib.hid (HT.out Wq _ A DQ.out.t (Nat.le_trans HB.out DQ.out.below.size) HA.out HF.out)
    rw [← hwk, ← hdn, ← hB] at TW
    clear hwk hdn hB
    go_wp2_with fail
    refine TW.out.mono ?_
    rintro e w2 ⟨u2, rfl, t2, o2, b2⟩
    obtain ⟨a2, k2, rfl⟩ := t2.slice
    have D2 := Lib.hid (DB.setF (DQ.out.on b2) t2 (fun k hk => by
      rcases o2 k hk with h | h
      · have := DQ.out.size; exact .inr (by omega)
      · exact DQ.out.ou k h))
    have DW := Lib.hid (DQ.out.on b2)
    have hz2 : w.heap.size + 2 ≤ w2.heap.size := DW.out.size
    have HZ2 := Lib.hid hz2
    clear b2 t2 o2 TW DQ c0 c1 c2 r0 r1 r2 f0 f1 f2 g0 g1 g2 hz2
    have c0 := DW.out.c0
    have c1 := DW.out.c1
    have c2 := DW.out.c2
    have r0 := DW.out.r0
    have r1 := DW.out.r1
    have r2 := DW.out.r2
    have f0 := DW.out.fb 0
    have f1 := DW.out.fb 1
    have f2 := DW.out.fb 2
    have g0 := DW.out.fr 0
    have g1 := DW.out.fr 1
    have g2 := DW.out.fr 2
    have hh : w.heap.size < w2.heap.size := by have := HZ2.out; omega
    go_upto_region 12 with fail
    obtain ⟨W, hW⟩ : ∃ W, W = (w2.setCell ⟨w.heap.size, 2, none⟩ (.slice a2 B.length k2)).alloc (.cells #[.slice a2 B.length k2] 28) := ⟨_, rfl⟩
    have DA := Lib.hid (show DB base w (.slice va vn vc) (.slice ua un uc) rm xs B (.slice va vn vc) (.slice a2 B.length k2) W from by rw [hW]; exact D2.out.on ((Below.refl _ _).alloc (Nat.le_refl _) _))
    rw [← hW]
    clear hW DW D2 HZ2 hh c0 c1 c2 r0 r1 r2 f0 f1 f2 g0 g1 g2
    have c0 := DA.out.c0
    have c1 := DA.out.c1
    have c2 := DA.out.c2
    have r0 := DA.out.r0
    have r1 := DA.out.r1
    have r2 := DA.out.r2
    have f0 := DA.out.fb 0
    have f1 := DA.out.fb 1
    have f2 := DA.out.fb 2
    have g0 := DA.out.fr 0
    have g1 := DA.out.fr 1
    have g2 := DA.out.fr 2
    cases dn
    · cases wk
      · go_wp2_with fail
        obtain ⟨W6, hW6⟩ : ∃ W6, W6 = ((W.setCell ⟨w.heap.size + 1, 0, none⟩ (.slice va vn vc)).setCell ⟨w.heap.size + 1, 1, none⟩ (.int .i64 rm)).setCell ⟨w.heap.size + 1, 2, none⟩ (.slice a2 B.length k2) := ⟨_, rfl⟩
        obtain ⟨k0, k1, k2, ks, kt, ko, kp, kb⟩ := DB.ret (DA.out) W6 hW6
        rw [← hW6]
        refine bodyPost_ret (by simp [results, Try.results31, go_sem, k0, k1, k2]; rfl) rfl ?_
        have eD : D = (xs, B, 8) := ED.out
        subst eD
        exact ⟨_, _, rfl, ks, kt, ko, kp, kb⟩
      · go_wp2_with fail
        obtain ⟨W6, hW6⟩ : ∃ W6, W6 = ((W.setCell ⟨w.heap.size + 1, 0, none⟩ (.slice va vn vc)).setCell ⟨w.heap.size + 1, 1, none⟩ (.int .i64 rm)).setCell ⟨w.heap.size + 1, 2, none⟩ (.slice a2 B.length k2) := ⟨_, rfl⟩
        obtain ⟨k0, k1, k2, ks, kt, ko, kp, kb⟩ := DB.ret (DA.out) W6 hW6
        rw [← hW6]
        refine bodyPost_ret (by simp [results, Try.results31, go_sem, k0, k1, k2]; rfl) rfl ?_
        have eD : D = (xs, B, 0) := ED.out
        subst eD
        exact ⟨_, _, rfl, ks, kt, ko, kp, kb⟩
    · have hzW := DA.out.size
      have hh : w.heap.size < W.heap.size := by omega
      have hh1 : w.heap.size + 1 < W.heap.size := by omega
      obtain ⟨q0, q1, q2⟩ := rjc_at xs i x HX.out
      have hS := DA.out.s
      rw [← HVN.out] at hS
      obtain ⟨gl, ol, cl, ea, _, _, _⟩ := hS.somewhere (by omega)
      cases ea
      have p0 := hS.cells (i * 3) _ q0
      have p1 := hS.cells (i * 3 + 1) _ q1
      have p2 := hS.cells (i * 3 + 2) _ q2
      rw [Addr.add_lit] at p0 p1 p2
      rw [← Nat.add_assoc] at p1 p2
      have hgl := (hS.lt gl rfl).2
      clear q0 q1 q2 hS hzW
      go_upto_region 16 with fail
      have hY := heap_alloc_new W (.cells #[.string x.name, .string x.data, .int .i64 x.tm] 85)
      obtain ⟨X, hX⟩ : ∃ X, X = W.alloc (.cells #[.string x.name, .string x.data, .int .i64 x.tm] 85) := ⟨_, rfl⟩
      have bX : Below W.heap.size W X := by rw [hX]; exact (Below.refl _ _).alloc (Nat.le_refl _) _
      rw [← hX] at hY ⊢
      obtain ⟨Y, hYd⟩ : ∃ Y, Y = W.heap.size := ⟨_, rfl⟩
      have zX : X.heap.size = Y + 1 := by rw [hX, hYd]; simp
      have ZY := Lib.hid (show w.heap.size + 2 ≤ Y ∧ Y + 1 = X.heap.size by have := DA.out.size; omega)
      rw [← hYd] at hY bX ⊢
      have HY := Lib.hid hY
      have BX := Lib.hid bX
      have HYW := Lib.hid hYd
      have hXl : X.heap[Y]? = some (.cells #[.string x.name, .string x.data, .int .i64 x.tm] 85) := hY
      have y0 : X.cell? ⟨Y, 0, none⟩ = some (.string x.name) := (cell_of_row _ _ 0 _ _ _ hXl).trans rfl
      have y1 : X.cell? ⟨Y, 1, none⟩ = some (.string x.data) := (cell_of_row _ _ 1 _ _ _ hXl).trans rfl
      have y2 : X.cell? ⟨Y, 2, none⟩ = some (.int .i64 x.tm) := (cell_of_row _ _ 2 _ _ _ hXl).trans rfl
      have w0' : X.frozen? ⟨Y, 0, none⟩ = false := by simp only [World.frozen?, hXl]; rfl
      have w1' : X.frozen? ⟨Y, 1, none⟩ = false := by simp only [World.frozen?, hXl]; rfl
      have w2' : X.frozen? ⟨Y, 2, none⟩ = false := by simp only [World.frozen?, hXl]; rfl
      have DX := Lib.hid (DA.out.on (show Below W.heap.size W X by rw [← hYd]; exact bX))
      clear hX bX hYd zX hY hXl p0 p1 p2 hgl hh hh1 c0 c1 c2 r0 r1 r2 f0 f1 f2 g0 g1 g2
      have c0 := DX.out.c0
      have c1 := DX.out.c1
      have c2 := DX.out.c2
      have r0 := DX.out.r0
      have r1 := DX.out.r1
      have r2 := DX.out.r2
      have f0 := DX.out.fb 0
      have f1 := DX.out.fb 1
      have f2 := DX.out.fb 2
      have g0 := DX.out.fr 0
      have g1 := DX.out.fr 1
      have g2 := DX.out.fr 2
      have hsz : x.data.size ≤ 1000000 := HDS.out x (List.mem_of_getElem? HX.out)
      go_upto_region 22 with fail
      obtain ⟨X2, hX2⟩ : ∃ X2, X2 = X.setCell ⟨Y, 2, none⟩ (.int .i64 x.data.size) := ⟨_, rfl⟩
      have bX2 : Below Y W X2 := by rw [hX2]; exact BX.out.setCell (p := ⟨Y, 2, none⟩) (Nat.le_refl _) _
      have z0 : X2.cell? ⟨Y, 0, none⟩ = some (.string x.name) := by rw [hX2, cell_setCell_other _ _ _ _ _ (.inr (by simp))]; exact y0
      have z1 : X2.cell? ⟨Y, 1, none⟩ = some (.string x.data) := by rw [hX2, cell_setCell_other _ _ _ _ _ (.inr (by simp))]; exact y1
      have z2 : X2.cell? ⟨Y, 2, none⟩ = some (.int .i64 x.data.size) := by rw [hX2]; exact cell_setCell_same _ _ _ _ (by rw [y2]; rfl)
      have zX2 : X2.heap.size = Y + 1 := by rw [hX2]; have := ZY.out; simp only [World.size_setCell]; omega
      rw [← hX2]
      have DX2 := Lib.hid (DA.out.on (show Below W.heap.size W X2 by rw [← HYW.out]; exact bX2))
      clear hX2 bX2 y0 y1 y2 w0' w1' w2' DX c0 c1 c2 r0 r1 r2 f0 f1 f2 g0 g1 g2
      have c0 := DX2.out.c0
      have c1 := DX2.out.c1
      have c2 := DX2.out.c2
      have r0 := DX2.out.r0
      have r1 := DX2.out.r1
      have r2 := DX2.out.r2
      have f0 := DX2.out.fb 0
      have f1 := DX2.out.fb 1
      have f2 := DX2.out.fb 2
      have g0 := DX2.out.fr 0
      have g1 := DX2.out.fr 1
      have g2 := DX2.out.fr 2
      have RD := Lib.hid (RS.out X2 base _ (.slice a2 B.length k2) xs ⟨x.name, x.data, (x.data.size : Int)⟩ DX2.out.s HL.out ⟨_, _, _, rfl⟩)
      rw [← HL2.out] at RD
      go_wp2_with fail
      refine RD.out.mono ?_
      rintro e w3 ⟨v3, rfl, s3, b3⟩
      obtain ⟨a3, k3, rfl⟩ := s3.slice
      have hyz := ZY.out
      have D3 := Lib.hid (DB.setL (DX2.out.on b3) (s3.mono (by have := HB.out; omega)) (fun k hk => by have := (s3.lt k hk).1; exact .inr (by omega)))
      have DW := Lib.hid (DX2.out.on b3)
      clear s3 b3 c0 c1 c2 r0 r1 r2 f0 f1 f2 g0 g1 g2 RD DX2 hyz z0 z1 z2 zX2
      have c0 := DW.out.c0
      have c1 := DW.out.c1
      have c2 := DW.out.c2
      have r0 := DW.out.r0
      have r1 := DW.out.r1
      have r2 := DW.out.r2
      have f0 := DW.out.fb 0
      have f1 := DW.out.fb 1
      have f2 := DW.out.fb 2
      have g0 := DW.out.fr 0
      have g1 := DW.out.fr 1
      have g2 := DW.out.fr 2
      go_upto_region 28 with fail
      obtain ⟨Z, hZ⟩ : ∃ Z, Z = ((w3.setCell ⟨w.heap.size, 0, none⟩ (.slice a3 L2.length k3)).setCell ⟨w.heap.size, 1, none⟩ (.int .i64 rm)).setCell ⟨w.heap.size, 2, none⟩ (.slice a2 B.length k2) := ⟨_, rfl⟩
      rw [← hZ] at D3 ⊢
      clear hZ DW c0 c1 c2 r0 r1 r2 f0 f1 f2 g0 g1 g2
      have c0 := D3.out.c0
      have c1 := D3.out.c1
      have c2 := D3.out.c2
      have r0 := D3.out.r0
      have r1 := D3.out.r1
      have r2 := D3.out.r2
      have f0 := D3.out.fb 0
      have f1 := D3.out.fb 1
      have f2 := D3.out.fb 2
      have g0 := D3.out.fr 0
      have g1 := D3.out.fr 1
      have g2 := D3.out.fr 2
      cases wk
      · go_wp2_with fail
        obtain ⟨W6, hW6⟩ : ∃ W6, W6 = ((Z.setCell ⟨w.heap.size + 1, 0, none⟩ (.slice a3 L2.length k3)).setCell ⟨w.heap.size + 1, 1, none⟩ (.int .i64 rm)).setCell ⟨w.heap.size + 1, 2, none⟩ (.slice a2 B.length k2) := ⟨_, rfl⟩
        obtain ⟨k0, k1, k2, ks, kt, ko, kp, kb⟩ := DB.ret (D3.out) W6 hW6
        rw [← hW6]
        refine bodyPost_ret (by simp [results, Try.results31, go_sem, k0, k1, k2]; rfl) rfl ?_
        have eD : D = (L2, B, 8) := ED.out
        subst eD
        exact ⟨_, _, rfl, ks, kt, ko, kp, kb⟩
      · go_wp2_with fail
        obtain ⟨W6, hW6⟩ : ∃ W6, W6 = ((Z.setCell ⟨w.heap.size + 1, 0, none⟩ (.slice a3 L2.length k3)).setCell ⟨w.heap.size + 1, 1, none⟩ (.int .i64 rm)).setCell ⟨w.heap.size + 1, 2, none⟩ (.slice a2 B.length k2) := ⟨_, rfl⟩
        obtain ⟨k0, k1, k2, ks, kt, ko, kp, kb⟩ := DB.ret (D3.out) W6 hW6
        rw [← hW6]
        refine bodyPost_ret (by simp [results, Try.results31, go_sem, k0, k1, k2]; rfl) rfl ?_
        have eD : D = (L2, B, 0) := ED.out
        subst eD
        exact ⟨_, _, rfl, ks, kt, ko, kp, kb⟩
end Go.Proofs.Ytnjoojffefhgpaa

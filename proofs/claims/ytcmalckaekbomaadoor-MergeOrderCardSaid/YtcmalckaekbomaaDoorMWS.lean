/- Layer 14: MergeOrder, walked. Layer 14: a slice of samples of series that came in, opened, with its capacity. -/
import Derived.Test.YtcmalckaekbomaaDoorMWQ
namespace Go.Proofs.YtcmalckaekbomaaDoor
open Go.RowKit Go.Lib Hp
set_option linter.unusedVariables false

theorem OnC.on {w w' : World} {a : Option Addr} {len cap : Nat} {zs : List On} (h : OnC w a len cap zs) (b : Below w.heap.size w w') : OnC w' a len cap zs := ⟨h.1.on b, h.2⟩
/-- Three tables, as they lie. -/
structure T3s (w : World) (x y z : Value) (RX RY RZ : List Rw) : Prop where
  x : TabC w 40 x RX
  y : TabC w 40 y RY
  z : TabC w 40 z RZ
theorem T3s.on {w w' : World} {x y z : Value} {RX RY RZ : List Rw} (h : T3s w x y z RX RY RZ) (b : Below w.heap.size w w') : T3s w' x y z RX RY RZ := ⟨h.x.on b, h.y.on b, h.z.on b⟩
theorem tabP_2 {W : World} {us : List Value} {u v : Value} {A B : Ps} (hu : TabC W 1000 u (addF [] A)) (hv : TabC W 1000 v (addF [] B)) (p : Nat) (x : Value) (ps : Ps) (h1 : [u, v][p]? = some x) (h2 : [A, B][p]? = some ps) : TabC W 1000 x (addF [] ps) := by
  match p, h1, h2 with
  | 0, h1, h2 =>
    obtain rfl := Option.some.inj h1
    obtain rfl := Option.some.inj h2
    exact hu
  | 1, h1, h2 =>
    obtain rfl := Option.some.inj h1
    obtain rfl := Option.some.inj h2
    exact hv
  | p + 2, h1, _ => simp at h1
theorem tabP_3 {W : World} {u v x : Value} {A B C : Ps} (hu : TabC W 1000 u (addF [] A)) (hv : TabC W 1000 v (addF [] B)) (hx : TabC W 1000 x (addF [] C)) (p : Nat) (y : Value) (ps : Ps) (h1 : [u, v, x][p]? = some y) (h2 : [A, B, C][p]? = some ps) : TabC W 1000 y (addF [] ps) := by
  match p, h1, h2 with
  | 0, h1, h2 =>
    obtain rfl := Option.some.inj h1
    obtain rfl := Option.some.inj h2
    exact hu
  | 1, h1, h2 =>
    obtain rfl := Option.some.inj h1
    obtain rfl := Option.some.inj h2
    exact hv
  | 2, h1, h2 =>
    obtain rfl := Option.some.inj h1
    obtain rfl := Option.some.inj h2
    exact hx
  | p + 3, h1, _ => simp at h1
/-- Tables of a literal. -/
theorem tables_lit (W : World) (us : List Value) (PS : List Ps) (R : List Rw) (hl : us.length = PS.length) (hk : PS.length ≤ 100) (hn : PS.flatten.length ≤ 1000) (hu : ∀ (p : Nat) (u : Value) (ps : Ps), us[p]? = some u → PS[p]? = some ps → TabC W 1000 u (addF [] ps)) (hf : addF [] PS.flatten = R) :
    Calls Tryd.prog 8 #[.slice (some ⟨W.heap.size, 0, none⟩) us.length us.length] (W.alloc (.cells us.toArray 25)) fun e w' => ∃ v', e = .returned v' ∧ TabC w' 1000 v' R ∧ Below W.heap.size W w' := by
  have b : Below W.heap.size W (W.alloc (.cells us.toArray 25)) := (Below.refl _ _).alloc (Nat.le_refl _) _
  refine (tables_P _ PS _ (TsR.lit W us PS 25 hl hu) hk hn).mono ?_
  rintro e w' ⟨v', rfl, h1, h2⟩
  rw [hf] at h1
  exact ⟨v', rfl, h1, b.trans (h2.mono b.size)⟩

set_option maxHeartbeats 8000000 in
set_option maxRecDepth 100000 in
theorem mergeorder_any (a b c : Option Addr) (la ca lb cb lc cc : Nat) (za zb zc : List On) (w : World) (ha : OnC w a la ca za) (hb : OnC w b lb cb zb) (hc : OnC w c lc cc zc) :
    Calls Tryd.prog 4 #[.slice a la ca, .slice b lb cb, .slice c lc cc] w fun e w' => e = .returned (.bool true) ∧ Below w.heap.size w w' := by
  obtain ⟨A, hA⟩ : ∃ A : Ps, A = ((za.take 30).map ag).map onP := ⟨_, rfl⟩
  have vA : Val A := by rw [hA]; exact val_ag _ (fun z hz => (ha.1.rng z (List.mem_of_mem_take hz)).1)
  have lA : A.length ≤ 30 := by rw [hA, List.length_map, List.length_map, List.length_take]; omega
  obtain ⟨RA, hRA⟩ : ∃ R, R = addF [] A := ⟨_, rfl⟩
  have eA : tableZ ((za.take 30).map ag) = RA := by rw [tableZ_P, ← hA, hRA]
  have rA : RA.length ≤ 30 := by rw [hRA]; have := (addF_len0 A).1; omega
  obtain ⟨B, hB⟩ : ∃ B : Ps, B = ((zb.take 30).map ag).map onP := ⟨_, rfl⟩
  have vB : Val B := by rw [hB]; exact val_ag _ (fun z hz => (hb.1.rng z (List.mem_of_mem_take hz)).1)
  have lB : B.length ≤ 30 := by rw [hB, List.length_map, List.length_map, List.length_take]; omega
  obtain ⟨RB, hRB⟩ : ∃ R, R = addF [] B := ⟨_, rfl⟩
  have eB : tableZ ((zb.take 30).map ag) = RB := by rw [tableZ_P, ← hB, hRB]
  have rB : RB.length ≤ 30 := by rw [hRB]; have := (addF_len0 B).1; omega
  obtain ⟨C, hC⟩ : ∃ C : Ps, C = ((zc.take 30).map ag).map onP := ⟨_, rfl⟩
  have vC : Val C := by rw [hC]; exact val_ag _ (fun z hz => (hc.1.rng z (List.mem_of_mem_take hz)).1)
  have lC : C.length ≤ 30 := by rw [hC, List.length_map, List.length_map, List.length_take]; omega
  obtain ⟨RC, hRC⟩ : ∃ R, R = addF [] C := ⟨_, rfl⟩
  have eC : tableZ ((zc.take 30).map ag) = RC := by rw [tableZ_P, ← hC, hRC]
  have rC : RC.length ≤ 30 := by rw [hRC]; have := (addF_len0 C).1; omega
  obtain ⟨RR, hRR⟩ : ∃ R, R = addF [] ([A, B, C]).flatten := ⟨_, rfl⟩
  have fl : ([A, B, C]).flatten.length ≤ 90 := by simp only [List.flatten_cons, List.flatten_nil, List.append_nil, List.length_append]; omega
  have rR : RR.length ≤ 90 := by rw [hRR]; have := (addF_len0 ([A, B, C]).flatten).1; omega
  obtain ⟨RAB, hRAB⟩ : ∃ R, R = addF [] ([A, B]).flatten := ⟨_, rfl⟩
  obtain ⟨RBC, hRBC⟩ : ∃ R, R = addF [] ([B, C]).flatten := ⟨_, rfl⟩
  have flAB : ([A, B]).flatten.length ≤ 90 := by simp only [List.flatten_cons, List.flatten_nil, List.append_nil, List.length_append]; omega
  have flBC : ([B, C]).flatten.length ≤ 90 := by simp only [List.flatten_cons, List.flatten_nil, List.append_nil, List.length_append]; omega
  have AW := Lib.hid (fun W => awake14_any W)
  have AG := Lib.hid (fun (W : World) (a : Option Addr) (len cap : Nat) (zs : List On) (h : OnC W a len cap zs) => agree_any a len cap zs W h)
  have TBL := Lib.hid (fun (W : World) (a : Option Addr) (len cap : Nat) (zs : List On) (R : List Rw) (h : OnR W a len zs) (hR : tableZ zs = R) => show Calls Tryd.prog 6 #[.slice a len cap] W (fun e w' => ∃ pv tv, e = .returned (.tuple #[pv, tv]) ∧ TabC w' 40 pv R ∧ TabR w' 40 tv R ∧ Below W.heap.size W w') from by
    have := table14_any a len cap zs W h
    rw [hR] at this
    exact this)
  have TD := Lib.hid (fun (W : World) (u : Value) (hu : TabC W 1000 u RR) => told14_any u RR 1000 W hu.r (by omega) (by omega))
  have SM := Lib.hid (fun (W : World) (u v : Value) (hu : TabR W 1000 u RR) (hv : TabR W 1000 v RR) => same14_any u v RR 1000 W hu hv (by omega) (by omega))
  have TXYZ := Lib.hid (fun (W : World) (x y z : Value) (h : T3s W x y z RA RB RC) => tables_lit W [x, y, z] [A, B, C] RR rfl (by simp) (by omega) (tabP_3 (by rw [← hRA]; exact h.x.mono (by omega)) (by rw [← hRB]; exact h.y.mono (by omega)) (by rw [← hRC]; exact h.z.mono (by omega))) hRR.symm)
  have TZXY := Lib.hid (fun (W : World) (x y z : Value) (h : T3s W x y z RA RB RC) => tables_lit W [z, x, y] [C, A, B] RR rfl (by simp) (by simp only [List.flatten_cons, List.flatten_nil, List.append_nil, List.length_append]; omega) (tabP_3 (by rw [← hRC]; exact h.z.mono (by omega)) (by rw [← hRA]; exact h.x.mono (by omega)) (by rw [← hRB]; exact h.y.mono (by omega))) (by rw [hRR]; exact order_turn vA vB vC))
  have TXY := Lib.hid (fun (W : World) (x y z : Value) (h : T3s W x y z RA RB RC) => tables_lit W [x, y] [A, B] RAB rfl (by simp) (by omega) (tabP_2 (us := []) (by rw [← hRA]; exact h.x.mono (by omega)) (by rw [← hRB]; exact h.y.mono (by omega))) hRAB.symm)
  have TXYz := Lib.hid (fun (W : World) (u x y z : Value) (h : T3s W x y z RA RB RC) (hu : TabC W 1000 u RAB) => tables_lit W [u, z] [([A, B]).flatten, C] RR rfl (by simp) (by rw [order_left]; omega) (tabP_2 (us := []) (by rw [← hRAB]; exact hu) (by rw [← hRC]; exact h.z.mono (by omega))) (by rw [hRR, order_left]))
  have TYZ := Lib.hid (fun (W : World) (x y z : Value) (h : T3s W x y z RA RB RC) => tables_lit W [y, z] [B, C] RBC rfl (by simp) (by omega) (tabP_2 (us := []) (by rw [← hRB]; exact h.y.mono (by omega)) (by rw [← hRC]; exact h.z.mono (by omega))) hRBC.symm)
  have TxYZ := Lib.hid (fun (W : World) (u x y z : Value) (h : T3s W x y z RA RB RC) (hu : TabC W 1000 u RBC) => tables_lit W [x, u] [A, ([B, C]).flatten] RR rfl (by simp) (by rw [order_right]; omega) (tabP_2 (us := []) (by rw [← hRA]; exact h.x.mono (by omega)) (by rw [← hRBC]; exact hu)) (by rw [hRR, order_right]))
  have HA := Lib.hid ha; have HB := Lib.hid hb; have HC := Lib.hid hc
  have EA := Lib.hid eA; have EB := Lib.hid eB; have EC := Lib.hid eC
  have AGA := Lib.hid (AG.out w a la ca za ha)
  clear ha hb hc hA hB hC vA vB vC lA lB lC hRA hRB hRC eA eB eC rA rB rC hRR fl rR hRAB hRBC flAB flBC
  go_enter Tryd.func4, Tryd.ntmps4
  go_wp2_with fail
  refine AGA.out.mono ?_
  rintro e w1 ⟨xa, xn, xc, rfl, on1, b1⟩
  have TB1 := Lib.hid (TBL.out w1 xa xn xc _ RA on1 EA.out)
  have B1 := Lib.hid b1
  have HB1 := Lib.hid (HB.out.on b1); have HC1 := Lib.hid (HC.out.on b1)
  clear on1 b1 AGA HB HC HA EA
  go_wp2_with fail
  refine TB1.out.mono ?_
  rintro e w2 ⟨x, xt, rfl, tx, txt, b2⟩
  obtain ⟨pa, pc, rfl⟩ := tx.form
  obtain ⟨qa, qc, rfl⟩ := txt.form
  have X2 := Lib.hid tx
  have B2 := Lib.hid (B1.out.trans (b2.mono B1.out.size))
  have AGB := Lib.hid (AG.out w2 b lb cb zb (HB1.out.on b2)); have HC2 := Lib.hid (HC1.out.on b2)
  clear tx txt b2 B1 TB1 HB1 HC1
  go_wp2_with fail
  refine AGB.out.mono ?_
  rintro e w3 ⟨ya, yn, yc, rfl, on3, b3⟩
  have TB3 := Lib.hid (TBL.out w3 ya yn yc _ RB on3 EB.out)
  have X3 := Lib.hid (X2.out.on b3)
  have B3 := Lib.hid (B2.out.trans (b3.mono B2.out.size))
  have HC3 := Lib.hid (HC2.out.on b3)
  clear on3 b3 AGB X2 B2 HC2 EB
  go_wp2_with fail
  refine TB3.out.mono ?_
  rintro e w4 ⟨y, yt, rfl, ty, tyt, b4⟩
  obtain ⟨pa2, pc2, rfl⟩ := ty.form
  obtain ⟨qa2, qc2, rfl⟩ := tyt.form
  have X4 := Lib.hid (X3.out.on b4); have Y4 := Lib.hid ty
  have B4 := Lib.hid (B3.out.trans (b4.mono B3.out.size))
  have AGC := Lib.hid (AG.out w4 c lc cc zc (HC3.out.on b4))
  clear ty tyt b4 B3 TB3 HC3 X3
  go_wp2_with fail
  refine AGC.out.mono ?_
  rintro e w5 ⟨za', zn, zc', rfl, on5, b5⟩
  have TB5 := Lib.hid (TBL.out w5 za' zn zc' _ RC on5 EC.out)
  have X5 := Lib.hid (X4.out.on b5); have Y5 := Lib.hid (Y4.out.on b5)
  have B5 := Lib.hid (B4.out.trans (b5.mono B4.out.size))
  clear on5 b5 AGC X4 Y4 B4 EC AG TBL
  go_wp2_with fail
  refine TB5.out.mono ?_
  rintro e w6 ⟨z, zt, rfl, tz, tzt, b6⟩
  obtain ⟨pa3, pc3, rfl⟩ := tz.form
  obtain ⟨qa3, qc3, rfl⟩ := tzt.form
  have S6 := Lib.hid (T3s.mk (X5.out.on b6) (Y5.out.on b6) tz)
  have B6 := Lib.hid (B5.out.trans (b6.mono B5.out.size))
  have C6 := Lib.hid (TXYZ.out w6 _ _ _ S6.out)
  clear tz tzt b6 B5 TB5 X5 Y5 TXYZ
  go_wp2_with fail
  refine C6.out.mono ?_
  rintro e w7 ⟨v7, rfl, t7, b7⟩
  have S7 := Lib.hid (S6.out.on b7)
  have B7 := Lib.hid (B6.out.trans (b7.mono B6.out.size))
  have C7 := Lib.hid (TD.out w7 v7 t7)
  obtain ⟨a7, c7, rfl⟩ := t7.form
  clear t7 b7 S6 B6 C6
  go_wp2_with fail
  refine C7.out.mono ?_
  rintro e w8 ⟨v8, rfl, t8, b8⟩
  have S8 := Lib.hid (S7.out.on b8)
  have B8 := Lib.hid (B7.out.trans (b8.mono B7.out.size))
  have L8 := Lib.hid t8
  obtain ⟨a8, c8, rfl⟩ := t8.form
  clear t8 b8 S7 B7 C7
  go_wp2_with fail
  refine (AW.out _).mono ?_
  rintro e w9 ⟨rfl, b9⟩
  have S9 := Lib.hid (S8.out.on b9)
  have B9 := Lib.hid (B8.out.trans (b9.mono B8.out.size))
  have L9 := Lib.hid (L8.out.on b9)
  have C9 := Lib.hid (TZXY.out w9 _ _ _ S9.out)
  clear b9 S8 B8 L8
  go_wp2_with fail
  refine C9.out.mono ?_
  rintro e w10 ⟨v10, rfl, t10, b10⟩
  have S10 := Lib.hid (S9.out.on b10)
  have B10 := Lib.hid (B9.out.trans (b10.mono B9.out.size))
  have L10 := Lib.hid (L9.out.on b10)
  have C10 := Lib.hid (TD.out w10 v10 t10)
  obtain ⟨a10, c10, rfl⟩ := t10.form
  clear t10 b10 S9 B9 C9 L9
  go_wp2_with fail
  refine C10.out.mono ?_
  rintro e w11 ⟨v11, rfl, t11, b11⟩
  have S11 := Lib.hid (S10.out.on b11)
  have B11 := Lib.hid (B10.out.trans (b11.mono B10.out.size))
  have L11 := Lib.hid (L10.out.on b11)
  have C11 := Lib.hid (SM.out w11 _ v11 L11.out t11)
  obtain ⟨a11, c11, rfl⟩ := t11.form
  clear t11 b11 S10 B10 C10 L10
  go_wp2_with fail
  refine C11.out.mono ?_
  rintro e w12 ⟨rfl, b12⟩
  have S12 := Lib.hid (S11.out.on b12)
  have B12 := Lib.hid (B11.out.trans (b12.mono B11.out.size))
  have L12 := Lib.hid (L11.out.on b12)
  have C12 := Lib.hid (TXY.out w12 _ _ _ S12.out)
  clear b12 S11 B11 L11
  go_wp2_with fail
  refine C12.out.mono ?_
  rintro e w13 ⟨v13, rfl, t13, b13⟩
  have S13 := Lib.hid (S12.out.on b13)
  have B13 := Lib.hid (B12.out.trans (b13.mono B12.out.size))
  have L13 := Lib.hid (L12.out.on b13)
  have C13 := Lib.hid (TXYz.out w13 v13 _ _ _ S13.out t13)
  obtain ⟨a13, c13, rfl⟩ := t13.form
  clear t13 b13 S12 B12 C12 L12
  go_wp2_with fail
  refine C13.out.mono ?_
  rintro e w14 ⟨v14, rfl, t14, b14⟩
  have S14 := Lib.hid (S13.out.on b14)
  have B14 := Lib.hid (B13.out.trans (b14.mono B13.out.size))
  have L14 := Lib.hid (L13.out.on b14)
  have C14 := Lib.hid (TD.out w14 v14 t14)
  obtain ⟨a14, c14, rfl⟩ := t14.form
  clear t14 b14 S13 B13 C13 L13
  go_wp2_with fail
  refine C14.out.mono ?_
  rintro e w15 ⟨v15, rfl, t15, b15⟩
  have S15 := Lib.hid (S14.out.on b15)
  have B15 := Lib.hid (B14.out.trans (b15.mono B14.out.size))
  have L15 := Lib.hid (L14.out.on b15)
  have C15 := Lib.hid (SM.out w15 _ v15 L15.out t15)
  obtain ⟨a15, c15, rfl⟩ := t15.form
  clear t15 b15 S14 B14 C14 L14
  go_wp2_with fail
  refine C15.out.mono ?_
  rintro e w16 ⟨rfl, b16⟩
  have S16 := Lib.hid (S15.out.on b16)
  have B16 := Lib.hid (B15.out.trans (b16.mono B15.out.size))
  have L16 := Lib.hid (L15.out.on b16)
  have C16 := Lib.hid (TYZ.out w16 _ _ _ S16.out)
  clear b16 S15 B15 L15
  go_wp2_with fail
  refine C16.out.mono ?_
  rintro e w17 ⟨v17, rfl, t17, b17⟩
  have S17 := Lib.hid (S16.out.on b17)
  have B17 := Lib.hid (B16.out.trans (b17.mono B16.out.size))
  have L17 := Lib.hid (L16.out.on b17)
  have C17 := Lib.hid (TxYZ.out w17 v17 _ _ _ S17.out t17)
  obtain ⟨a17, c17, rfl⟩ := t17.form
  clear t17 b17 S16 B16 C16 L16
  go_wp2_with fail
  refine C17.out.mono ?_
  rintro e w18 ⟨v18, rfl, t18, b18⟩
  have S18 := Lib.hid (S17.out.on b18)
  have B18 := Lib.hid (B17.out.trans (b18.mono B17.out.size))
  have L18 := Lib.hid (L17.out.on b18)
  have C18 := Lib.hid (TD.out w18 v18 t18)
  obtain ⟨a18, c18, rfl⟩ := t18.form
  clear t18 b18 S17 B17 C17 L17
  go_wp2_with fail
  refine C18.out.mono ?_
  rintro e w19 ⟨v19, rfl, t19, b19⟩
  have S19 := Lib.hid (S18.out.on b19)
  have B19 := Lib.hid (B18.out.trans (b19.mono B18.out.size))
  have L19 := Lib.hid (L18.out.on b19)
  have C19 := Lib.hid (SM.out w19 _ v19 L19.out t19)
  obtain ⟨a19, c19, rfl⟩ := t19.form
  clear t19 b19 S18 B18 C18 L18
  go_wp2_with fail
  refine C19.out.mono ?_
  rintro e w20 ⟨rfl, b20⟩
  have S20 := Lib.hid (S19.out.on b20)
  have B20 := Lib.hid (B19.out.trans (b20.mono B19.out.size))
  have L20 := Lib.hid (L19.out.on b20)
  clear b20 S19 B19 L19
  go_wp2
  go_ret
  exact ⟨rfl, B20.out⟩
end Go.Proofs.YtcmalckaekbomaaDoor

namespace Go.Proofs.YtcmalckaekbomaaDoor
open Go.RowKit Go.Lib Go.Deep Go.ChangeShapes Go.WideShapes
set_option linter.unusedVariables false

def OncR (w : World) (ao : Option Addr) (len cap : Nat) (zs : List On) : Prop := OnC w ao len cap zs
theorem onc_open {H : Type} {enc : TypeId × Value → H} {W : World} {base : Nat} {spare : Nat → Bool} {held : Bool} {fuel : Nat} {ao : Option Addr} {len cap : Nat} {x : DataW H × List MemPlace}
    (h : DataW.trod enc Tryd.prog W base spare held fuel 28 [.slice ao len cap] = some x) : ∃ zs, len ≤ maxLen ∧ OncR W ao len cap zs := by
  obtain ⟨zs, hm, hz⟩ := ons_open h
  refine ⟨zs, hm, hz, ?_⟩
  rcases open_slice Tryd.underlying28 h with ⟨hcs, _⟩ | ⟨a, len', cap', m, n, D, Pl, hcs, hb, hl, hm2, hmm, _, hi⟩
  · simp only [List.cons.injEq, Value.slice.injEq, and_true] at hcs
    obtain ⟨rfl, rfl, rfl⟩ := hcs
    exact ⟨Nat.le_refl _, Nat.zero_le _, fun _ => ⟨rfl, rfl⟩⟩
  · simp only [List.cons.injEq, Value.slice.injEq, and_true] at hcs
    obtain ⟨rfl, rfl, rfl⟩ := hcs
    exact ⟨hl, hm2, fun h => by cases h⟩
end Go.Proofs.YtcmalckaekbomaaDoor

/- Layer 25: Settle, walked. Layer 25: the statements' points, walked. -/
import Derived.Test.YtfckgcckpfklaaaGreatDoorMDGB
import Derived.Test.YtfckgcckpfklaaaGreatDoorMA6
namespace Go.Proofs.YtfckgcckpfklaaaGreatDoor
open Go.RowKit Go.Lib Hp
set_option linter.unusedVariables false

def SetP (sure : List Rw) (ps : List Pq) (now : List Rw) : Prop := WithinP sure now ∧ WithinP now (addF sure (pts ps)) ∧ FirstP now ps
/-- What Settle answers, and leaves. -/
def SetA (b K1 : Nat) (sure : List Rw) (ps : List Pq) (now : List Rw) (w : World) (e : Ending) (w' : World) : Prop :=
  (∃ c : Int, e = .returned (.int .i64 c) ∧ (c = 0 ↔ SetP sure ps now) ∧ (¬ WithinP sure now → c = 5) ∧ (WithinP sure now → WithinP now (addF sure (pts ps)) → ¬ FirstP now ps → c = 10)) ∧
  (SetP sure ps now → Led w' b (b + 1) K1 now [] ∧ ∃ sv, w'.heap[b]? = some (.cells #[sv, .slice none 0 0] 27)) ∧ (¬ SetP sure ps now → Below w.heap.size w w') ∧ Turn (fun k => k = b) w w'
set_option maxHeartbeats 2000000 in
set_option maxRecDepth 100000 in
theorem settle_any (b B K K1 : Nat) (sure now : List Rw) (ps : List Pq) (nv : Value) (w : World) (h : Led w b B K sure ps) (hn : TabR w K1 nv now) (u : UpT now) (hs : ∀ p ∈ ps, Short p.ls) (hl : sure.length + ps.length ≤ 100000) (hK : K + ps.length ≤ 10000) (k1 : K1 ≤ 10000) :
    Calls Tryz.prog 13 #[.pointer (some ⟨b, 0, none⟩), nv] w (SetA b K1 sure ps now w) := by
  have hblt := h.blk
  have MY := Lib.hid (fun W (bb : Below w.heap.size w W) => may_any b B K sure ps W (h.on bb) hl (by omega))
  have FO := Lib.hid (fun W (bb : Below w.heap.size w W) => firstOnes_any b B K K1 sure now ps nv W (h.on bb) (hn.on bb) u hs (by omega) (by omega))
  obtain ⟨sv, ov, hb, hF, hp⟩ := h.ex
  have HO := Lib.hid (fun W (bv : Value) (T : List Rq) (bb : Below w.heap.size w W) (t : TabO W w.heap.size (K + ps.length) bv T) (et : rws T = addF sure (pts ps)) (ut : UpT (rws T)) (lt : T.length ≤ sure.length + ps.length) => holds_any nv sv bv now sure (addF sure (pts ps)) K1 K (K + ps.length) W (hn.on bb) ((hF.c.r).on bb) (by rw [← et]; exact (t.readF (by omega)).c.r) u (by rw [← et]; exact ut) k1 (by omega) hK)
  have OW := Lib.hid (fun W (bb : Below w.heap.size w W) => show Calls Tryz.prog 26 #[nv] W (fun e w' => ∃ v' T, e = .returned v' ∧ TabO w' W.heap.size K1 v' T ∧ rws T = now ∧ Below W.heap.size W w') from by
    obtain ⟨hm, qs, rfl, h2, h3⟩ := hn
    have h0 := own_any nv qs K1 W (by have := h2.on bb; rw [List.length_map] at this; exact this) (fun q hq => (h3 q hq).on bb) (by simpa using hm) (by omega)
    exact h0)
  obtain ⟨sa, sn, sc, rfl⟩ : ∃ a n c, sv = .slice a n c := by
    obtain ⟨a, c, e, _⟩ := hF.1.2.1
    exact ⟨_, _, _, e⟩
  obtain ⟨oa, oc, rfl⟩ := hp.1.1.slice
  obtain ⟨na, nn, nc, rfl⟩ : ∃ a n c, nv = .slice a n c := by
    obtain ⟨hm, qs, rfl, h2, h3⟩ := hn
    obtain ⟨a, c, e⟩ := h2.slice
    exact ⟨_, _, _, e⟩
  have FIN := Lib.hid (fun (W w8 : World) (v : Value) (T : List Rq) (bb : Below w.heap.size w W) (b8 : Below W.heap.size W w8) (t : TabO w8 W.heap.size K1 v T) (et : rws T = now) => show
      (w8.cell? ⟨b, 0, none⟩ = some (.slice sa sn sc) ∧ w8.frozen? ⟨b, 0, none⟩ = false ∧ (w8.setCell ⟨b, 0, none⟩ v).cell? ⟨b, 1, none⟩ = some (.slice oa ps.length oc) ∧ (w8.setCell ⟨b, 0, none⟩ v).frozen? ⟨b, 1, none⟩ = false) ∧
      Led ((w8.setCell ⟨b, 0, none⟩ v).setCell ⟨b, 1, none⟩ (.slice none 0 0)) b (b + 1) K1 now [] ∧ (∃ sv, ((w8.setCell ⟨b, 0, none⟩ v).setCell ⟨b, 1, none⟩ (.slice none 0 0)).heap[b]? = some (.cells #[sv, .slice none 0 0] 27)) ∧ Turn (fun k => k = b) w ((w8.setCell ⟨b, 0, none⟩ v).setCell ⟨b, 1, none⟩ (.slice none 0 0)) from by
    have z1 := bb.size
    have h8 : w8.heap[b]? = some (.cells #[.slice sa sn sc, .slice oa ps.length oc] 27) := (b8.block b (by omega)).trans ((bb.block b hblt).trans hb)
    have h9 : (w8.setCell ⟨b, 0, none⟩ v).heap[b]? = some (.cells #[v, .slice oa ps.length oc] 27) := by
      simp only [World.setCell]
      rw [Array.getElem?_modify, if_pos rfl, h8]
      rfl
    have h10 : ((w8.setCell ⟨b, 0, none⟩ v).setCell ⟨b, 1, none⟩ (.slice none 0 0)).heap[b]? = some (.cells #[v, .slice none 0 0] 27) := by
      obtain ⟨w9, hw9⟩ : ∃ w9, w9 = w8.setCell ⟨b, 0, none⟩ v := ⟨_, rfl⟩
      rw [← hw9] at h9 ⊢
      simp only [World.setCell]
      rw [Array.getElem?_modify, if_pos rfl, h9]
      rfl
    have T8a : Turn (fun k => k = b) w8 (w8.setCell ⟨b, 0, none⟩ v) := (Turn.refl _ _).setCell _ _ rfl
    have T8 : Turn (fun k => k = b) w8 ((w8.setCell ⟨b, 0, none⟩ v).setCell ⟨b, 1, none⟩ (.slice none 0 0)) := T8a.setCell _ _ rfl
    have TF := t.readF (by have := hn.1; rw [← et, rws_len] at this; exact this)
    have TF2 := TF.turn T8 (fun k hk => by omega)
    rw [et] at TF2
    exact ⟨⟨Lib.cell_of_heap h8 0, Lib.frozen_of_heap h8 0, Lib.cell_of_heap h9 1, Lib.frozen_of_heap h9 1⟩, ⟨Nat.lt_succ_self _, ⟨_, _, h10, TF2.mono (by omega) (Nat.le_refl _), PtsF.nil _ _⟩, u⟩, ⟨_, h10⟩, ((Turn.of_below bb).trans (Turn.of_below b8)).trans T8⟩)
  have K1' := Lib.hid (fun W (bb : Below w.heap.size w W) => show W.cell? ⟨b, 0, none⟩ = some (.slice sa sn sc) from (bb.cell (p := ⟨b, 0, none⟩) hblt).trans (Lib.cell_of_heap hb 0))
  have c0 := Lib.cell_of_heap hb 0
  obtain ⟨n, hn1⟩ : ∃ n, n = ps.length := ⟨_, rfl⟩
  rw [← hn1] at FIN
  clear h hb hF hp hn u hs hl hK k1 hn1
  go_enter Tryz.func13, Tryz.ntmps13
  go_upto_region 1 with fail
  have B0 := (Below.refl w.heap.size w).drew
  go_region_held3 (fun W => W.cell? ⟨b, 0, none⟩ = some (.slice sa sn sc))
    (first | exact c0 | exact K1'.out _ B1 | exact K1'.out _ B2 | assumption | fail)
    (first
      | (go_at_call 17; ((with_reducible refine (MY.out _ B0).mono ?_)); rintro e w1 ⟨v1, T, rfl, t1', e1, u1, l1, b1⟩; have t1 : TabO w1 w.heap.size (K + ps.length) v1 T := t1'; clear t1'; have B1 : Below w.heap.size w w1 := B0.trans (b1.mono B0.size); have HH := Lib.hid (HO.out w1 v1 T B1 t1 e1 u1 l1); clear t1 e1 u1 l1)
      | (go_at_call 33; ((with_reducible refine HH.out.mono ?_)); rintro e w2 ⟨⟨c, rfl, hc1, hc2, hc3⟩, b2⟩; have B2 : Below w.heap.size w w2 := B1.trans (b2.mono B1.size))
      | fail)
  have HC := Lib.hid (And.intro hc1 (And.intro hc2 hc3))
  clear hc1 hc2 hc3 HH MY HO
  by_cases hz : c = 0
  · subst hz
    have HW := Lib.hid (HC.out.1.1 rfl)
    go_wp2_with fail
    refine (FO.out w2 B2).mono ?_
    rintro e w3 ⟨⟨d, rfl, hd⟩, b3⟩
    have B3 : Below w.heap.size w w3 := B2.trans (b3.mono B2.size)
    cases d
    · have HNO := Lib.hid (show ¬ FirstP now ps from fun h => by have := hd.2 h; cases this)
      clear hd
      go_wp2
      go_ret
      exact ⟨⟨10, rfl, ⟨fun h => absurd h (by decide), fun h => absurd h.2.2 HNO.out⟩, fun h => absurd HW.out.1 h, fun _ _ _ => rfl⟩, fun h => absurd h.2.2 HNO.out, fun _ => B3, Turn.of_below B3⟩
    · have HY := Lib.hid (hd.1 rfl)
      clear hd
      go_wp2_with fail
      refine (OW.out w3 B3).mono ?_
      rintro e w8 ⟨v8, T, rfl, t8, e8, b8⟩
      obtain ⟨⟨f1, f2, f3, f4⟩, F5, F5b, F6⟩ := FIN.out w3 w8 v8 T B3 b8 t8 e8
      obtain ⟨va, vc, rfl⟩ := t8.slice
      clear t8 e8 FIN OW FO
      go_wp2
      go_ret
      exact ⟨⟨0, rfl, ⟨fun _ => ⟨HW.out.1, HW.out.2, HY.out⟩, fun _ => rfl⟩, fun h => absurd HW.out.1 h, fun _ _ h => absurd HY.out h⟩, fun _ => ⟨F5, F5b⟩, fun h => absurd ⟨HW.out.1, HW.out.2, HY.out⟩ h, F6⟩
  · have hzb : (c == (0 : Int)) = false := by simpa using hz
    go_wp2
    go_ret
    refine ⟨⟨c, rfl, ⟨fun h => absurd h hz, fun h => HC.out.1.2 ⟨h.1, h.2.1⟩⟩, HC.out.2.1, fun h1 h2 => absurd (HC.out.1.2 ⟨h1, h2⟩) hz⟩, fun h => absurd (HC.out.1.2 ⟨h.1, h.2.1⟩) hz, fun _ => B2, Turn.of_below B2⟩
end Go.Proofs.YtfckgcckpfklaaaGreatDoor

namespace Go.Proofs.YtfckgcckpfklaaaGreatDoor
open Go.RowKit Go.Lib Hp
set_option linter.unusedVariables false

theorem results_cell2 {P : Program} {fn : Func} {p q : Tmp} {ty uy : TypeId} (h : fn.results = #[.cell p ty, .cell q uy]) (tmps : Array Value) (w : World) (g g' : Nat) (t t' : TypeId) (cs cs' : Array Value) (fr fr' : Nat × Nat) (d d' : TypeDesc)
    (hp : tmps.getD p undef = .pointer (some ⟨g, 0, none⟩)) (hq : tmps.getD q undef = .pointer (some ⟨g', 0, none⟩)) (hg : w.heap[g]? = some (.cells cs t fr)) (hg' : w.heap[g']? = some (.cells cs' t' fr'))
    (hu : P.underlying ty = some d) (hd : (match d with | .struct _ | .array _ _ => true | _ => false) = true) (hi : (P.info? ty).map (·.size) = some cs.size)
    (hu' : P.underlying uy = some d') (hd' : (match d' with | .struct _ | .array _ _ => true | _ => false) = true) (hi' : (P.info? uy).map (·.size) = some cs'.size) :
    (results fn tmps).run P w = .ok (.tuple #[.agg cs, .agg cs']) w := by
  have hp' : tmps[p]?.getD undef = .pointer (some ⟨g, 0, none⟩) := by simpa using hp
  have hq' : tmps[q]?.getD undef = .pointer (some ⟨g', 0, none⟩) := by simpa using hq
  have hl := run_loadVar_row w g t ty cs fr d hg hu hd hi
  have hl' := run_loadVar_row w g' t' uy cs' fr' d' hg' hu' hd' hi'
  simp [results, h, hp', hq', asAddr, hl, hl']

/-- A row of three cells that is stored anew. -/
theorem row3 {W : World} {g : Nat} {x y z : Value} {t : TypeId} (h : W.heap[g]? = some (.cells #[x, y, z] t)) (a b c : Value) :
    W.cell? ⟨g, 0, none⟩ = some x ∧ W.frozen? ⟨g, 0, none⟩ = false ∧ (W.setCell ⟨g, 0, none⟩ a).cell? ⟨g, 1, none⟩ = some y ∧ (W.setCell ⟨g, 0, none⟩ a).frozen? ⟨g, 1, none⟩ = false ∧ ((W.setCell ⟨g, 0, none⟩ a).setCell ⟨g, 1, none⟩ b).cell? ⟨g, 2, none⟩ = some z ∧ ((W.setCell ⟨g, 0, none⟩ a).setCell ⟨g, 1, none⟩ b).frozen? ⟨g, 2, none⟩ = false ∧
    (((W.setCell ⟨g, 0, none⟩ a).setCell ⟨g, 1, none⟩ b).setCell ⟨g, 2, none⟩ c).heap[g]? = some (.cells #[a, b, c] t) := by
  have h1 : (W.setCell ⟨g, 0, none⟩ a).heap[g]? = some (.cells #[a, y, z] t) := by
    simp only [World.setCell]
    rw [Array.getElem?_modify, if_pos rfl, h]
    rfl
  obtain ⟨W1, hW1⟩ : ∃ W1, W1 = W.setCell ⟨g, 0, none⟩ a := ⟨_, rfl⟩
  rw [← hW1] at h1 ⊢
  have h2 : (W1.setCell ⟨g, 1, none⟩ b).heap[g]? = some (.cells #[a, b, z] t) := by
    simp only [World.setCell]
    rw [Array.getElem?_modify, if_pos rfl, h1]
    rfl
  obtain ⟨W2, hW2⟩ : ∃ W2, W2 = W1.setCell ⟨g, 1, none⟩ b := ⟨_, rfl⟩
  rw [← hW2] at h2 ⊢
  refine ⟨Lib.cell_of_heap h 0, Lib.frozen_of_heap h 0, Lib.cell_of_heap h1 1, Lib.frozen_of_heap h1 1, Lib.cell_of_heap h2 2, Lib.frozen_of_heap h2 2, ?_⟩
  simp only [World.setCell]
  rw [Array.getElem?_modify, if_pos rfl, h2]
  rfl
theorem set3_block (W : World) (g k : Nat) (a b c : Value) (hk : k ≠ g) : (((W.setCell ⟨g, 0, none⟩ a).setCell ⟨g, 1, none⟩ b).setCell ⟨g, 2, none⟩ c).heap[k]? = W.heap[k]? := by
  rw [Below.heap_setCell _ _ _ _ hk, Below.heap_setCell _ _ _ _ hk, Below.heap_setCell _ _ _ _ hk]
theorem set3_size (W : World) (g : Nat) (a b c : Value) : (((W.setCell ⟨g, 0, none⟩ a).setCell ⟨g, 1, none⟩ b).setCell ⟨g, 2, none⟩ c).heap.size = W.heap.size := by simp [World.setCell]

set_option maxHeartbeats 4000000 in
set_option maxRecDepth 100000 in
theorem point_any (zn zt zv : Int) (w : World) (hn0 : 0 ≤ zn) (hn1 : zn ≤ 255) :
    Calls Tryz.prog 23 #[.agg #[.int .u8 zn, .int .i64 zt, .int .u64 zv]] w fun e w' => ∃ a c a' c', e = .returned (.tuple #[.agg #[.slice a (labs zn).length c, .int .i64 (t1000 zt), .int .u64 zv], .agg #[.slice a' (labs zn).length c', .int .i64 (t1000 zt), .int .u64 zv]]) ∧
      Sl w' w.heap.size 2 (.slice a (labs zn).length c) (labs zn).length (prc (labs zn)) ∧ Below w.heap.size w w' := by
  obtain ⟨r, hr⟩ : ∃ r, zt.tmod 1000 = r := ⟨_, rfl⟩
  have hr0 : -1000 < r ∧ r < 1000 := by
    rw [← hr]
    constructor
    · have := Int.lt_tmod_of_pos zt (b := 1000) (by decide); omega
    · exact Int.tmod_lt_of_pos _ (by decide)
  have hwr : IntKind.i64.wrap (r + 1000) = r + 1000 := IntWalk.i64_in _ (by omega)
  obtain ⟨T, hT⟩ : ∃ T, T = r % 1000 := ⟨_, rfl⟩
  have HT : t1000 zt = T := by
    unfold t1000
    rw [hr, hT, Int.tmod_eq_emod_of_nonneg (by omega)]
    omega
  rw [HT]
  have LB := Lib.hid (fun W => labels14_any zn W hn0 hn1)
  have hLL := labs_len zn
  obtain ⟨LS, hLS⟩ : ∃ LS, LS = labs zn := ⟨_, rfl⟩
  rw [← hLS] at LB hLL ⊢
  obtain ⟨V4, hV4⟩ : ∃ V4, V4 = (((w.alloc (.cells #[.int .u8 zn, .int .i64 zt, .int .u64 zv] 57)).alloc (.cells #[.slice none 0 0, .int .i64 0, .int .u64 0] 38)).alloc (.cells #[.slice none 0 0, .int .i64 0, .int .u64 0] 67)).alloc (.cells #[.int .i64 T, .int .u64 zv] 34) := ⟨_, rfl⟩
  have b4 : Below w.heap.size w V4 := by rw [hV4]; exact ((((Below.refl _ _).alloc (Nat.le_refl _) _).alloc (by simp) _).alloc (by simp <;> omega) _).alloc (by simp <;> omega) _
  have z4 : V4.heap.size = w.heap.size + 1 + 1 + 1 + 1 := by rw [hV4]; simp
  have hx4 : V4.heap[w.heap.size]? = some (.cells #[.int .u8 zn, .int .i64 zt, .int .u64 zv] 57) := by
    rw [hV4, heap_alloc_old _ _ (by simp <;> omega), heap_alloc_old _ _ (by simp <;> omega), heap_alloc_old _ _ (by simp <;> omega)]
    exact heap_alloc_new w _
  have hr4 : V4.heap[w.heap.size + 1]? = some (.cells #[.slice none 0 0, .int .i64 0, .int .u64 0] 38) := by
    rw [hV4, heap_alloc_old _ _ (by simp <;> omega), heap_alloc_old _ _ (by simp <;> omega)]
    have := heap_alloc_new (w.alloc (.cells #[.int .u8 zn, .int .i64 zt, .int .u64 zv] 57)) (.cells #[.slice none 0 0, .int .i64 0, .int .u64 0] 38)
    simpa using this
  have ht4 : V4.heap[w.heap.size + 1 + 1]? = some (.cells #[.slice none 0 0, .int .i64 0, .int .u64 0] 67) := by
    rw [hV4, heap_alloc_old _ _ (by simp <;> omega)]
    have := heap_alloc_new ((w.alloc (.cells #[.int .u8 zn, .int .i64 zt, .int .u64 zv] 57)).alloc (.cells #[.slice none 0 0, .int .i64 0, .int .u64 0] 38)) (.cells #[.slice none 0 0, .int .i64 0, .int .u64 0] 67)
    simpa using this
  have hs4 : V4.heap[w.heap.size + 1 + 1 + 1]? = some (.cells #[.int .i64 T, .int .u64 zv] 34) := by
    rw [hV4]
    have := heap_alloc_new (((w.alloc (.cells #[.int .u8 zn, .int .i64 zt, .int .u64 zv] 57)).alloc (.cells #[.slice none 0 0, .int .i64 0, .int .u64 0] 38)).alloc (.cells #[.slice none 0 0, .int .i64 0, .int .u64 0] 67)) (.cells #[.int .i64 T, .int .u64 zv] 34)
    simpa using this
  obtain ⟨n4, hn4⟩ : ∃ n, n = w.heap.size := ⟨_, rfl⟩
  have hr4' := hr4
  have ht4' := ht4
  rw [← hn4] at hr4' ht4'
  have CX := Lib.hid (fun (W : World) (hx : W.heap[n4]? = V4.heap[n4]?) (hs : W.heap[n4 + 1 + 1 + 1]? = V4.heap[n4 + 1 + 1 + 1]?) => show W.cell? ⟨n4, 0, none⟩ = some (.int .u8 zn) ∧ W.cell? ⟨n4 + 1 + 1 + 1, 0, none⟩ = some (.int .i64 T) ∧ W.cell? ⟨n4 + 1 + 1 + 1, 1, none⟩ = some (.int .u64 zv) from by
    rw [hn4] at hx hs ⊢
    have a := hx.trans hx4
    have b := hs.trans hs4
    exact ⟨Lib.cell_of_heap a 0, Lib.cell_of_heap b 0, Lib.cell_of_heap b 1⟩)
  have FIN := Lib.hid (fun (v3 v5 : Value) (w3 w5 : World) (b3 : Below V4.heap.size V4 w3) (s3 : Sl w3 V4.heap.size 2 v3 LS.length (prc LS)) (b5 : Below w3.heap.size w3 w5) => by
    have b45 : Below V4.heap.size V4 w5 := b3.trans (b5.mono b3.size)
    have hr5 := (b45.block (n4 + 1) (by omega)).trans hr4'
    have ht5 := (b45.block (n4 + 1 + 1) (by omega)).trans ht4'
    have R := row3 hr5 v3 (.int .i64 T) (.int .u64 zv)
    obtain ⟨w6, hw6⟩ : ∃ w6, w6 = (((w5.setCell ⟨n4 + 1, 0, none⟩ v3).setCell ⟨n4 + 1, 1, none⟩ (.int .i64 T)).setCell ⟨n4 + 1, 2, none⟩ (.int .u64 zv)) := ⟨_, rfl⟩
    have S6 : ∀ k, k ≠ n4 + 1 → w6.heap[k]? = w5.heap[k]? := fun k hk => by rw [hw6]; exact set3_block _ _ _ _ _ _ hk
    have ht6 := (S6 (n4 + 1 + 1) (by omega)).trans ht5
    have R2 := row3 ht6 v5 (.int .i64 T) (.int .u64 zv)
    obtain ⟨w7, hw7⟩ : ∃ w7, w7 = (((w6.setCell ⟨n4 + 1 + 1, 0, none⟩ v5).setCell ⟨n4 + 1 + 1, 1, none⟩ (.int .i64 T)).setCell ⟨n4 + 1 + 1, 2, none⟩ (.int .u64 zv)) := ⟨_, rfl⟩
    have S7 : ∀ k, k ≠ n4 + 1 + 1 → w7.heap[k]? = w6.heap[k]? := fun k hk => by rw [hw7]; exact set3_block _ _ _ _ _ _ hk
    have hr6 := R.2.2.2.2.2.2
    rw [← hw6] at hr6
    have hr7 := (S7 (n4 + 1) (by omega)).trans hr6
    have ht7 := R2.2.2.2.2.2.2
    rw [← hw7] at ht7
    have z6 : w6.heap.size = w5.heap.size := by rw [hw6]; exact set3_size _ _ _ _ _
    have z7 : w7.heap.size = w6.heap.size := by rw [hw7]; exact set3_size _ _ _ _ _
    have zb := b45.size
    have z3 := b3.size
    have z5 := b5.size
    have c6 := CX.out w6 ((S6 n4 (by omega)).trans (b45.block n4 (by omega))) ((S6 (n4 + 1 + 1 + 1) (by omega)).trans (b45.block (n4 + 1 + 1 + 1) (by omega)))
    have c7 := CX.out w7 ((S7 n4 (by omega)).trans ((S6 n4 (by omega)).trans (b45.block n4 (by omega)))) ((S7 (n4 + 1 + 1 + 1) (by omega)).trans ((S6 (n4 + 1 + 1 + 1) (by omega)).trans (b45.block (n4 + 1 + 1 + 1) (by omega))))
    have sl7 : Sl w7 w.heap.size 2 v3 LS.length (prc LS) := ((s3.on b5).mono (base' := w.heap.size) (by omega)).same (by omega) fun k hk => by
      have h1 := (s3.lt k hk).1
      exact (S7 k (by omega)).trans (S6 k (by omega))
    have B6 : Below w.heap.size w w6 := by
      rw [hw6]
      exact (((b4.trans (b45.mono (by omega))).setCell (by show w.heap.size ≤ n4 + 1; omega) _).setCell (by show w.heap.size ≤ n4 + 1; omega) _).setCell (by show w.heap.size ≤ n4 + 1; omega) _
    have B7 : Below w.heap.size w w7 := by
      rw [hw7]
      exact ((B6.setCell (by show w.heap.size ≤ n4 + 1 + 1; omega) _).setCell (by show w.heap.size ≤ n4 + 1 + 1; omega) _).setCell (by show w.heap.size ≤ n4 + 1 + 1; omega) _
    rw [hw7, hw6] at hr7 ht7 c7 sl7 B7
    rw [hw6] at c6 R2
    exact And.intro R (And.intro c6 (And.intro R2 (And.intro c7 (And.intro hr7 (And.intro ht7 (And.intro sl7 B7)))))))
  have kk := CX.out V4 rfl rfl
  have C3 := Lib.hid (fun (W : World) (bb : Below V4.heap.size V4 W) => CX.out W (bb.block n4 (by omega)) (bb.block (n4 + 1 + 1 + 1) (by omega)))
  have TD := Lib.hid (fun W (v : Value) (s : Rd W 2 v LS.length (prc LS)) => told_any v LS W s (by omega))
  have B4 := Lib.hid b4
  obtain ⟨L, hL⟩ : ∃ L, L = LS.length := ⟨_, rfl⟩
  clear hLS HT hx4 hr4 ht4 hr4' ht4' hs4 b4 CX z4
  go_enter Tryz.func23, Tryz.ntmps23
  go_upto_region 2 with fail
  rw [← hT, ← hV4, ← hn4]
  have HN4 := Lib.hid hn4
  clear hT hV4 hr hwr hr0 hn4
  have B0 := (Below.refl V4.heap.size V4).drew
  go_region_held3 (fun W => W.cell? ⟨n4, 0, none⟩ = some (.int .u8 zn) ∧ W.cell? ⟨n4 + 1 + 1 + 1, 0, none⟩ = some (.int .i64 T) ∧ W.cell? ⟨n4 + 1 + 1 + 1, 1, none⟩ = some (.int .u64 zv))
    (first | with_reducible exact C6.out | with_reducible exact C7.out | with_reducible exact C3.out _ B5 | with_reducible exact C3.out _ B44 | with_reducible exact C3.out _ B3 | exact kk | fail)
    (first
      | (go_at_call 22; (first | ((with_reducible refine (LB.out _).mono ?_); rintro e w3 ⟨v3, rfl, s3, b3⟩; have B3 : Below V4.heap.size V4 w3 := B0.trans (b3.mono B0.size); obtain ⟨a3, c3, e3⟩ := s3.slice; subst e3; clear B0) | ((with_reducible refine (LB.out _).mono ?_); rintro e w4 ⟨v4, rfl, s4, b44⟩; have B44 : Below V4.heap.size V4 w4 := B3.trans (b44.mono B3.size); obtain ⟨a4, c4, e4⟩ := s4.slice; subst e4)))
      | (go_at_call 36; ((with_reducible refine (TD.out w4 _ (Rd.of_sl s4)).mono ?_)); rintro e w5 ⟨v5, rfl, s5, b5⟩; have B5 : Below V4.heap.size V4 w5 := B44.trans (b5.mono B44.size); obtain ⟨a5, c5, e5⟩ := s5.slice; subst e5; have F5 := FIN.out _ (.slice a5 LS.length c5) w3 w5 B3 s3 (b44.trans (b5.mono b44.size)); obtain ⟨⟨r1, r2, r3, r4, r5, r6, r7⟩, c6, ⟨u1, u2, u3, u4, u5, u6, u7⟩, c7, hr7, ht7, sl7, B7⟩ := F5; have C6 := Lib.hid c6; have C7 := Lib.hid c7; have FF := Lib.hid (And.intro hr7 (And.intro ht7 (And.intro sl7 B7))); clear c6 c7 hr7 ht7 sl7 B7 r7 u7)
      | fail)
  obtain ⟨hr7, ht7, sl7, B7⟩ := FF.out
  go_wp2
  refine bodyPost_ret (results_cell2 Tryz.results23 _ _ (n4 + 1) (n4 + 1 + 1) _ _ _ _ _ _ _ _ rfl rfl hr7 ht7 Tryz.underlying38 rfl (by kernel_rfl) Tryz.underlying67 rfl (by kernel_rfl)) rfl ?_
  exact ⟨a3, c3, a5, c5, rfl, sl7, B7⟩
end Go.Proofs.YtfckgcckpfklaaaGreatDoor

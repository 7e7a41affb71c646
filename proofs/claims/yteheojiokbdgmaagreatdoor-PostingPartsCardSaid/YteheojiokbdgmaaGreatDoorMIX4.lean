/- Layer 12: entries that go (plain maths, and the maps). Layer 12: dropPair of a label that a series has. -/
import Derived.Test.YteheojiokbdgmaaGreatDoorMIX2
import Derived.Deep.RegionHeld3
import Derived.Deep.CutRange
import Derived.Deep.DeepCutAuto
namespace Go.Proofs.YteheojiokbdgmaaGreatDoor
open Go.RowKit Go.Lib

/-- On the way: a number is out of a list, and what is empty may be gone. -/
structure Mid (n : Int) (p : Pr) (H H' : List HEn) (k : HEn) : Prop where
  look : lookK HEn.x p.n H' = some k
  get : ∀ x y, getH H' x y = if x = p.n ∧ y = p.v then outZ (getH H x y) n else getH H x y
  others : Full H → ∀ h ∈ H', h.x ≠ p.n → h.vs ≠ [] ∧ ∀ e ∈ h.vs, e.l ≠ []
  rest : Full H → ∀ e ∈ k.vs, e.y ≠ p.v → e.l ≠ []
/-- What dropPair leaves of entries. -/
structure PairOut (n : Int) (p : Pr) (H H' : List HEn) : Prop where
  get : ∀ x y, getH H' x y = if x = p.n ∧ y = p.v then outZ (getH H x y) n else getH H x y
  full : Full H → Full H'

theorem getV_del {vs : List VEn} (hn : (vs.map VEn.y).Nodup) (y y' : List UInt8) : getV (delK VEn.y y vs) y' = if y' = y then [] else getV vs y' := by
  unfold getV
  rw [lookK_del VEn.y hn]
  by_cases e : y' = y
  · rw [if_pos e, if_pos e]; rfl
  · rw [if_neg e, if_neg e]
theorem lookK_upd {H : List HEn} {k : HEn} (vs : List VEn) (ci : Nat) (d : HEn) (hk : lookK HEn.x k.x H = some k) (hd : d.x = k.x) : lookK HEn.x k.x (putK HEn.x k.x (fun a => { a with vs := vs, ci := ci }) d H) = some { k with vs := vs, ci := ci } := by
  rw [lookK_put HEn.x (k := k.x) (k' := k.x) (f := fun a => { a with vs := vs, ci := ci }) (b := d) (fun _ => rfl) hd H, if_pos rfl, hk]; rfl
theorem getH_upd {H : List HEn} {k : HEn} (vs : List VEn) (ci : Nat) (d : HEn) (hk : lookK HEn.x k.x H = some k) (hd : d.x = k.x) (x y : List UInt8) : getH (putK HEn.x k.x (fun a => { a with vs := vs, ci := ci }) d H) x y = if x = k.x then getV vs y else getH H x y := by
  unfold getH
  rw [lookK_put HEn.x (k := k.x) (k' := x) (f := fun a => { a with vs := vs, ci := ci }) (b := d) (fun _ => rfl) hd H]
  by_cases e : x = k.x
  · rw [if_pos e, if_pos e, hk]; rfl
  · rw [if_neg e, if_neg e]
theorem upd_others {H : List HEn} {k : HEn} (vs : List VEn) (ci : Nat) (d : HEn) (hn : (H.map HEn.x).Nodup) (hd : d.x = k.x) {h : HEn} (hm : h ∈ putK HEn.x k.x (fun a => { a with vs := vs, ci := ci }) d H) (hx : h.x ≠ k.x) : h ∈ H := by
  rcases putK_mem HEn.x hn hm with ⟨h2, _⟩ | ⟨c, hc, rfl⟩ | ⟨_, rfl⟩
  · exact h2
  · exact absurd (lookK_mem HEn.x hc).2 hx
  · exact absurd hd hx

/-- The number is out. -/
theorem Mid.first {n : Int} {p : Pr} {H : List HEn} {k : HEn} (hk : lookK HEn.x p.n H = some k) (hn : (H.map HEn.x).Nodup) (hv : (k.vs.map VEn.y).Nodup) (v : Value) (c ci : Nat) :
    Mid n p H (putK HEn.x k.x (fun a => { a with vs := putV p.v v (outZ (getV k.vs p.v) n) c k.vs, ci := ci }) k H) { k with vs := putV p.v v (outZ (getV k.vs p.v) n) c k.vs, ci := ci } := by
  have hkx := (lookK_mem HEn.x hk).2
  have hk' := hk
  rw [← hkx] at hk'
  refine ⟨by rw [← hkx]; exact lookK_upd _ _ _ hk' rfl, fun x y => ?_, fun F h hm hx => F h (upd_others _ _ _ hn rfl hm (by rw [hkx]; exact hx)), fun F e he hy => ?_⟩
  rw [getH_upd _ _ _ hk' rfl, hkx]
  by_cases e : x = p.n
  · have hg : getH H x y = getV k.vs y := by unfold getH; rw [e, hk]; rfl
    rw [if_pos e, getV_put, hg]
    by_cases e2 : y = p.v
    · rw [if_pos e2, if_pos ⟨e, e2⟩, e2]
    · rw [if_neg e2, if_neg (fun h => e2 h.2)]
  · rw [if_neg e, if_neg (fun h => e h.1)]
  · rcases putK_mem VEn.y hv he with ⟨h2, _⟩ | ⟨c, hc, rfl⟩ | ⟨_, rfl⟩
    · exact (F k (lookK_mem HEn.x hk).1).2 e h2
    · exact absurd (lookK_mem VEn.y hc).2 hy
    · exact absurd rfl hy
/-- An empty list is gone. -/
theorem Mid.del {n : Int} {p : Pr} {H H1 : List HEn} {k : HEn} (M : Mid n p H H1 k) (hn : (H1.map HEn.x).Nodup) (hv : (k.vs.map VEn.y).Nodup) (h0 : getV k.vs p.v = []) :
    Mid n p H (putK HEn.x k.x (fun a => { a with vs := delK VEn.y p.v k.vs, ci := k.ci }) k H1) { k with vs := delK VEn.y p.v k.vs, ci := k.ci } := by
  have hkx := (lookK_mem HEn.x M.look).2
  have hk' := M.look
  rw [← hkx] at hk'
  refine ⟨by rw [← hkx]; exact lookK_upd _ _ _ hk' rfl, fun x y => ?_, fun F h hm hx => M.others F h (upd_others _ _ _ hn rfl hm (by rw [hkx]; exact hx)) hx, fun F e he hy => M.rest F e ((delK_mem VEn.y hv).1 he).1 hy⟩
  rw [← M.get, getH_upd _ _ _ hk' rfl, hkx]
  by_cases e : x = p.n
  · have hg : getH H1 x y = getV k.vs y := by unfold getH; rw [e, M.look]; rfl
    rw [if_pos e, getV_del hv, hg]
    by_cases e2 : y = p.v
    · rw [if_pos e2, e2, h0]
    · rw [if_neg e2]
  · rw [if_neg e]
/-- An empty map is gone. -/
theorem Mid.gone {n : Int} {p : Pr} {H H1 : List HEn} {k : HEn} (M : Mid n p H H1 k) (hn : (H1.map HEn.x).Nodup) (h0 : k.vs = []) : PairOut n p H (delK HEn.x p.n H1) := by
  refine ⟨fun x y => ?_, fun F h hm => ?_⟩
  · rw [← M.get]
    unfold getH
    rw [lookK_del HEn.x hn]
    by_cases e : x = p.n
    · rw [if_pos e, e, M.look]
      show [] = getV k.vs y
      rw [h0]; rfl
    · rw [if_neg e]
  · have := (delK_mem HEn.x hn).1 hm
    exact M.others F h this.1 this.2
/-- Nothing is empty. -/
theorem Mid.stays {n : Int} {p : Pr} {H H1 : List HEn} {k : HEn} (M : Mid n p H H1 k) (hn : (H1.map HEn.x).Nodup) (h0 : k.vs ≠ []) (h1 : Full H → ∀ e ∈ k.vs, e.l ≠ []) : PairOut n p H H1 := by
  refine ⟨M.get, fun F h hm => ?_⟩
  by_cases e : h.x = p.n
  · have := lookK_of_mem HEn.x hn hm
    rw [e, M.look] at this
    cases this
    exact ⟨h0, h1 F⟩
  · exact M.others F h hm e

theorem Mid.now {n : Int} {p : Pr} {H H1 : List HEn} {k : HEn} (M : Mid n p H H1 k) (hv : (k.vs.map VEn.y).Nodup) (h0 : getV k.vs p.v ≠ []) (F : Full H) : ∀ e ∈ k.vs, e.l ≠ [] := fun e he => by
  by_cases hy : e.y = p.v
  · have := lookK_of_mem VEn.y hv he
    rw [hy] at this
    unfold getV at h0
    rw [this] at h0
    exact h0
  · exact M.rest F e he hy
theorem Mid.then {n : Int} {p : Pr} {H H1 : List HEn} {k : HEn} (M : Mid n p H H1 k) (hv : (k.vs.map VEn.y).Nodup) (F : Full H) : ∀ e ∈ delK VEn.y p.v k.vs, e.l ≠ [] := fun e he => by
  have := (delK_mem VEn.y hv).1 he
  exact M.rest F e this.1 this.2

section
variable {base b mh ml : Nat} {va : Value} {A : List Int} {H : List HEn} {ch : Nat} {L : List LEn} {cl : Nat} {o o' : Own} {w w' : World}
theorem IxW.delList {k : HEn} (y : List UInt8) (h : IxW base b mh ml va A H ch L cl o w) (hk : lookK HEn.x k.x H = some k) (d : HEn) :
    Stp (fun t => t = .inner k.x ∨ ∃ y, t = .list k.x y) o o w (World.putMap w k.mi ((delK VEn.y y k.vs).map VEn.en) k.ci) ∧
      IxW base b mh ml va A (putK HEn.x k.x (fun a => { a with vs := delK VEn.y y k.vs, ci := k.ci }) d H) ch L cl o (World.putMap w k.mi ((delK VEn.y y k.vs).map VEn.en) k.ci) := by
  obtain ⟨o1, m1, l1, n1, n2⟩ := h.inner k (lookK_mem HEn.x hk).1
  have s2 : Stp (fun u => u = Tag.inner k.x) o o w (World.putMap w k.mi ((delK VEn.y y k.vs).map VEn.en) k.ci) := Stp.one o1 (turn_put (S := fun i => i = k.mi) rfl _ _)
  have st := s2.mono (T' := fun t => t = .inner k.x ∨ ∃ y, t = .list k.x y) (fun _ => .inl)
  refine ⟨st, h.setInner st (fun _ h => h) hk ⟨o1, mapIs_put (w := w) (mapIs_lt m1) _ _, fun e he => ?_, delK_nodup VEn.y n1, n2.del VEn.y⟩⟩
  exact (l1 e ((delK_mem VEn.y n1).1 he).1).step s2 nofun
theorem IxW.delInner (x : List UInt8) (h : IxW base b mh ml va A H ch L cl o w) :
    Stp (fun t => t = .having) o o w (World.putMap w mh ((delK HEn.x x H).map HEn.en) ch) ∧ IxW base b mh ml va A (delK HEn.x x H) ch L cl o (World.putMap w mh ((delK HEn.x x H).map HEn.en) ch) := by
  have s2 : Stp (fun u => u = Tag.having) o o w (World.putMap w mh ((delK HEn.x x H).map HEn.en) ch) := Stp.one h.oh (turn_put (S := fun i => i = mh) rfl _ _)
  exact ⟨s2, h.setHaving s2 (by rintro t rfl; exact ⟨nofun, nofun, nofun, nofun⟩) (mapIs_put (w := w) (mapIs_lt h.mapH) _ _) (fun e he => (h.inner e ((delK_mem HEn.x h.keysH).1 he).1).step s2 nofun (fun _ => nofun)) (delK_nodup HEn.x h.keysH) (h.bornH.del HEn.x)⟩
theorem IxW.delLab (n : Int) (h : IxW base b mh ml va A H ch L cl o w) :
    Stp (fun t => t = .labels) o o w (World.putMapJ w ml ((delK LEn.n n L).map LEn.en) cl) ∧ IxW base b mh ml va A H ch (delK LEn.n n L) cl o (World.putMapJ w ml ((delK LEn.n n L).map LEn.en) cl) := by
  have s2 : Stp (fun u => u = Tag.labels) o o w (World.putMapJ w ml ((delK LEn.n n L).map LEn.en) cl) := Stp.one h.ol (turn_putJ (S := fun i => i = ml) rfl _ _)
  exact ⟨s2, h.setLabels s2 (fun _ h => .inl h) (mapIsJ_put (w := w) (mapIsJ_lt h.mapL) _ _) (fun e he => LOk.step (h.labs e ((delK_mem LEn.n h.keysL).1 he).1) s2 nofun) (delK_nodup LEn.n h.keysL)⟩
theorem dpI (m ci : Nat) (y : List UInt8) (vs : List VEn) (h : MapIs m (vs.map VEn.en) ci w) (ty : TypeId) : (Builtin.delete_ #[66, 9] ty #[.map (some m), .string (bs y)]).run Tryz.prog w = .ok (.tuple #[]) (World.putMap w m ((delK VEn.y y vs).map VEn.en) ci) := by
  have := run_drop (P := Tryz.prog) Tryz.underlying66 Tryz.underlying9 h (bs y) ty
  rw [delE_map VEn.y VEn.en (fun _ => rfl)] at this
  exact this
theorem dpH (m ch : Nat) (x : List UInt8) (h : MapIs m (H.map HEn.en) ch w) (ty : TypeId) : (Builtin.delete_ #[67, 9] ty #[.map (some m), .string (bs x)]).run Tryz.prog w = .ok (.tuple #[]) (World.putMap w m ((delK HEn.x x H).map HEn.en) ch) := by
  have := run_drop (P := Tryz.prog) Tryz.underlying67 Tryz.underlying9 h (bs x) ty
  rw [delE_map HEn.x HEn.en (fun _ => rfl)] at this
  exact this
theorem dpL (m cl : Nat) (n : Int) (h : MapIsJ m (L.map LEn.en) cl w) (ty : TypeId) : (Builtin.delete_ #[68, 3] ty #[.map (some m), .int .i64 n]).run Tryz.prog w = .ok (.tuple #[]) (World.putMapJ w m ((delK LEn.n n L).map LEn.en) cl) := by
  have := run_dropJ (P := Tryz.prog) Tryz.underlying68 Tryz.underlying3 h n ty
  rw [delJ_map LEn.n LEn.en (fun _ => rfl)] at this
  exact this
theorem lnI (m ci : Nat) (vs : List VEn) (h : MapIs m (vs.map VEn.en) ci w) (ty : TypeId) : (Builtin.len_ #[66] ty #[.map (some m)]).run Tryz.prog w = .ok (goInt vs.length) w := by
  have := run_len_map (P := Tryz.prog) w 66 ty m _ _ (by kernel_rfl) h
  rw [this]
  simp
end
end Go.Proofs.YteheojiokbdgmaaGreatDoor

namespace Go.Proofs.YteheojiokbdgmaaGreatDoor
open Go.RowKit Go.Lib

set_option maxHeartbeats 4000000 in
set_option maxRecDepth 100000 in
theorem dropp_any (base b mh ml ch cl : Nat) (va : Value) (A : List Int) (H : List HEn) (L : List LEn) (o : Own) (n : Int) (p : Pr) (k : HEn) (w : World) (h : IxW base b mh ml va A H ch L cl o w)
    (hk : lookK HEn.x p.n H = some k) (hu : ∀ x y, Up (getH H x y) ∧ (getH H x y).length ≤ 99999) :
    Calls Tryz.prog 35 #[.pointer (some ⟨b, 0, none⟩), .int .i64 n, .agg #[.string (bs p.n), .string (bs p.v)]] w fun e w' => e = .returned (.tuple #[]) ∧ ∃ H' ch' o', IxW base b mh ml va A H' ch' L cl o' w' ∧ Stp (fun t => t = .having ∨ (∃ x, t = .inner x) ∨ ∃ x y, t = .list x y) o o' w w' ∧ PairOut n p H H' := by
  have hbw := h.lt_b
  have hkx : k.x = p.n := (lookK_mem HEn.x hk).2
  have hk' := hk
  rw [← hkx] at hk'
  have ho0 : o w.heap.size = none := by
    rcases e : o w.heap.size with _ | t
    · rfl
    · have := (h.lt _ t e).2; omega
  obtain ⟨W0, hW0⟩ : ∃ W0, W0 = (w.alloc (.cells #[.string (bs p.n), .string (bs p.v)] 58)).drew := ⟨_, rfl⟩
  have s0 : Stp (fun _ => False) o o w W0 := by rw [hW0]; exact ((Stp.refl _ _ _).alloc _).drew
  have I0 := h.other s0 (fun _ => id)
  have p0 : W0.heap[w.heap.size]? = some (.cells #[.string (bs p.n), .string (bs p.v)] 58) := by rw [hW0]; exact heap_alloc_new w _
  have c1 : w.cell? ⟨b, 1, none⟩ = some (.map (some mh)) := Lib.cell_of_heap h.box 1
  have hl1 := lkH mh ch p.n I0.mapH
  rw [hk] at hl1
  rw [hW0] at hl1
  have hl1 : (Instr.lookup 67 (.map (some mh)) (.string (bs p.n)) false).run Tryz.prog (w.alloc (.cells #[.string (bs p.n), .string (bs p.v)] 58)).drew = .ok (.map (some k.mi)) (w.alloc (.cells #[.string (bs p.n), .string (bs p.v)] 58)).drew := hl1
  have HW := Lib.hid hW0
  have II := Lib.hid I0
  have SS := Lib.hid s0
  have PP := Lib.hid p0
  have HK := Lib.hid hk
  have HK' := Lib.hid hk'
  have HKX := Lib.hid hkx
  clear h hk hk' hkx s0 I0 p0 hW0
  go_enter Tryz.func35, Tryz.ntmps35
  go_wp2_with fail
  go_region
  rw [← HW.out]
  have h0 := II.out
  have K0 := h0.inner k (lookK_mem HEn.x HK.out).1
  obtain ⟨v0, hv0, sl0⟩ := K0.val p.v
  have hG : getH H p.n p.v = getV k.vs p.v := by unfold getH; rw [HK.out]; rfl
  obtain ⟨hup, hlen⟩ := hu p.n p.v
  rw [hG] at hup hlen
  have C := Lib.hid (fun W (e : W = W0.drew) => show Calls Tryz.prog 34 #[v0, .int .i64 n] W (LW W0.drew base v0 (outZ (getV k.vs p.v) n)) from by rw [e]; exact without_any base v0 _ n W0.drew sl0.1 hup (by omega))
  have hl2 := lkI k.mi k.ci p.v k.vs (w := W0.drew) K0.2.1
  rw [hv0] at hl2
  obtain ⟨a0, c0, e0⟩ := sl0.1.slice
  have q0 : W0.drew.cell? ⟨w.heap.size, 1, none⟩ = some (.string (bs p.v)) := Lib.cell_of_heap PP.out 1
  have pl : w.heap.size < W0.heap.size := (Array.getElem?_eq_some_iff.1 PP.out).1
  obtain ⟨c', hc'⟩ : ∃ c', c' = (if (lookK VEn.y p.v k.vs).isSome then k.ci else k.ci + 1) := ⟨_, rfl⟩
  have FIN := Lib.hid (fun e w2 (hLW : LW W0.drew base v0 (outZ (getV k.vs p.v) n) e w2) => show ∃ v' o2, e = .returned v' ∧ w2.cell? ⟨w.heap.size, 1, none⟩ = some (.string (bs p.v)) ∧
      (Instr.mapUpdate 66 (.map (some k.mi)) (.string (bs p.v)) v').run Tryz.prog w2 = .ok () (World.putMap w2 k.mi ((putV p.v v' (outZ (getV k.vs p.v) n) k.ci k.vs).map VEn.en) c') ∧
      Hid (IxW base b mh ml va A (putK HEn.x k.x (fun a => { a with vs := putV p.v v' (outZ (getV k.vs p.v) n) k.ci k.vs, ci := c' }) k H) ch L cl o2 (World.putMap w2 k.mi ((putV p.v v' (outZ (getV k.vs p.v) n) k.ci k.vs).map VEn.en) c') ∧
        Stp (fun t => t = .having ∨ (∃ x, t = .inner x) ∨ ∃ x y, t = .list x y) o o2 w (World.putMap w2 k.mi ((putV p.v v' (outZ (getV k.vs p.v) n) k.ci k.vs).map VEn.en) c') ∧ (World.putMap w2 k.mi ((putV p.v v' (outZ (getV k.vs p.v) n) k.ci k.vs).map VEn.en) c').heap[w.heap.size]? = some (.cells #[.string (bs p.n), .string (bs p.v)] 58) ∧ o2 w.heap.size = none) from by
    have h1 := II.out.other (Stp.refl (fun _ => False) o W0).drew (fun _ => id)
    obtain ⟨v', o2, rfl, s2, sl2⟩ := hLW.own sl0 h1.lt
    have m2 : MapIs k.mi (k.vs.map VEn.en) k.ci w2 := MapIs.step (w := W0.drew) K0.2.1 s2 K0.1 nofun
    have hst := stI k.mi k.ci p.v k.vs v' (outZ (getV k.vs p.v) n) m2
    rw [← hc'] at hst
    obtain ⟨s3, I3⟩ := h1.setList HK'.out s2 sl2 c' k hc'
    refine ⟨v', o2, rfl, Lib.cell_of_heap ((s2.block' ho0 pl).trans PP.out) 1, hst, Lib.hid ⟨I3, ?_, (s3.block' ho0 pl).trans PP.out, s2.none ho0 pl⟩⟩
    exact (SS.out.drew.mono (fun _ h => h.elim)).trans (s3.mono (by rintro t (rfl | ⟨y, rfl⟩); exact .inr (.inl ⟨_, rfl⟩); exact .inr (.inr ⟨_, _, rfl⟩))))
  subst e0
  clear h0 K0 sl0 hv0 hup hlen hG hl1 c1 hc' hu
  go_wp2_with fail
  go_region_held3 (fun W => W.cell? ⟨w.heap.size, 1, none⟩ = some (.string (bs p.v)))
    (first | exact q0 | exact q2 | exact q3 | assumption | fail)
    (first
      | (go_at_call 34; ((with_reducible refine (C.out _ rfl).mono ?_)); rintro e w2 hLW; obtain ⟨v2, o2, rfl, q2, hst, E2⟩ := FIN.out _ _ hLW; clear hLW; have q3 := Lib.cell_of_heap E2.out.2.2.1 1)
      | fail)
  obtain ⟨W3, hW3⟩ : ∃ W3, W3 = World.putMap w2 k.mi ((putV p.v v2 (outZ (getV k.vs p.v) n) k.ci k.vs).map VEn.en) c' := ⟨_, rfl⟩
  have X : ∃ H1 k1, k1.mi = k.mi ∧ Mid n p H H1 k1 ∧ IxW base b mh ml va A H1 ch L cl o2 W3 ∧ Stp (fun t => t = .having ∨ (∃ x, t = .inner x) ∨ ∃ x y, t = .list x y) o o2 w W3 ∧ W3.heap[w.heap.size]? = some (.cells #[.string (bs p.n), .string (bs p.v)] 58) ∧ o2 w.heap.size = none := by
    rw [hW3]
    exact ⟨_, { k with vs := putV p.v v2 (outZ (getV k.vs p.v) n) k.ci k.vs, ci := c' }, rfl, Mid.first HK.out II.out.keysH (II.out.inner k (lookK_mem HEn.x HK.out).1).2.2.2.1 v2 k.ci c', E2.out.1, E2.out.2.1, E2.out.2.2.1, E2.out.2.2.2⟩
  rw [← hW3]
  clear hst q2 q3 E2 hW3 FIN C hl2 q0 HK' HKX II SS PP HW
  obtain ⟨H1, k1, hmi, M1, I1, S1, P1, ho2⟩ := X
  rw [← hmi]
  have K1 := I1.inner k1 (lookK_mem HEn.x M1.look).1
  obtain ⟨v1, hv1, sl1⟩ := K1.val p.v
  have hl1 := lkI k1.mi k1.ci p.v k1.vs K1.2.1
  rw [hv1] at hl1
  obtain ⟨a1, c1, e1⟩ := sl1.1.slice
  obtain ⟨N1, hN1⟩ : ∃ N1, N1 = (getV k1.vs p.v).length := ⟨_, rfl⟩
  rw [← hN1] at e1
  subst e1
  have q1 : W3.cell? ⟨w.heap.size, 1, none⟩ = some (.string (bs p.v)) := Lib.cell_of_heap P1 1
  have HM := Lib.hid M1
  have HI := Lib.hid I1
  have HS := Lib.hid S1
  have HP := Lib.hid P1
  have HK1 := Lib.hid K1
  have HN1 := Lib.hid hN1
  clear M1 I1 S1 P1 K1 hN1 hv1 sl1 hmi
  go_upto_if 28 with fail
  go_cut [6] from 7 to 40 (fun q wc => ∃ H2 k2, q = .map (some k2.mi) ∧ Mid n p H H2 k2 ∧ IxW base b mh ml va A H2 ch L cl o2 wc ∧ Stp (fun t => t = .having ∨ (∃ x, t = .inner x) ∨ ∃ x y, t = .list x y) o o2 w wc ∧ wc.heap[w.heap.size]? = some (.cells #[.string (bs p.n), .string (bs p.v)] 58) ∧ (Full H → ∀ e ∈ k2.vs, e.l ≠ []))
  case first =>
    by_cases hz : N1 = 0
    · have hlk := HM.out.look
      have hkx := (lookK_mem HEn.x hlk).2
      rw [← hkx] at hlk
      obtain ⟨s4, I4⟩ := HI.out.delList p.v hlk k1
      have hd := fun ty => dpI k1.mi k1.ci p.v k1.vs (w := W3) HK1.out.2.1 ty
      obtain ⟨W4, hW4⟩ : ∃ W4, W4 = World.putMap W3 k1.mi ((delK VEn.y p.v k1.vs).map VEn.en) k1.ci := ⟨_, rfl⟩
      rw [← hW4] at hd s4 I4
      have FF := Lib.hid (show ∃ H2 k2, Value.map (some k1.mi) = .map (some k2.mi) ∧ Mid n p H H2 k2 ∧ IxW base b mh ml va A H2 ch L cl o2 W4 ∧ Stp (fun t => t = .having ∨ (∃ x, t = .inner x) ∨ ∃ x y, t = .list x y) o o2 w W4 ∧ W4.heap[w.heap.size]? = some (.cells #[.string (bs p.n), .string (bs p.v)] 58) ∧ (Full H → ∀ e ∈ k2.vs, e.l ≠ []) from
        ⟨_, { k1 with vs := delK VEn.y p.v k1.vs, ci := k1.ci }, rfl, HM.out.del HI.out.keysH HK1.out.2.2.2.1 (List.length_eq_zero_iff.1 (by rw [← HN1.out]; exact hz)), I4, HS.out.trans (s4.mono (by rintro t (rfl | ⟨y, rfl⟩); exact .inr (.inl ⟨_, rfl⟩); exact .inr (.inr ⟨_, _, rfl⟩))), (s4.block' ho2 (Array.getElem?_eq_some_iff.1 HP.out).1).trans HP.out, fun F => HM.out.then HK1.out.2.2.2.1 F⟩)
      clear s4 I4 hW4 hlk hkx
      subst hz
      go_wp2_with fail
      go_meet
      exact FF.out
    · have hz2 : ¬ (N1 : Int) = 0 := by omega
      go_wp2_with fail
      go_meet
      exact ⟨H1, k1, rfl, HM.out, HI.out, HS.out, HP.out, fun F => HM.out.now HK1.out.2.2.2.1 (fun e => hz (by rw [HN1.out, e]; rfl)) F⟩
  case rest =>
  obtain ⟨H2, k2, rfl, M2, I2, S2, P2, F2⟩ := hcut
  have K2 := I2.inner k2 (lookK_mem HEn.x M2.look).1
  have hln := fun ty => lnI k2.mi k2.ci k2.vs K2.2.1 ty
  obtain ⟨N2, hN2⟩ : ∃ N2, N2 = k2.vs.length := ⟨_, rfl⟩
  rw [← hN2] at hln
  have HN2 := Lib.hid hN2
  clear hN2 HM HI HS HP HK1 HN1 hl1 q1
  by_cases hz : N2 = 0
  · have d1 : wc.cell? ⟨b, 1, none⟩ = some (.map (some mh)) := Lib.cell_of_heap I2.box 1
    have q0 : wc.cell? ⟨w.heap.size, 0, none⟩ = some (.string (bs p.n)) := Lib.cell_of_heap P2 0
    have I2d := I2.other (Stp.refl (fun _ => False) o2 wc).drew (fun _ => id)
    have hd := fun ty => dpH mh ch p.n I2d.mapH ty
    obtain ⟨s5, I5⟩ := I2d.delInner p.n
    obtain ⟨W5, hW5⟩ : ∃ W5, W5 = World.putMap wc.drew mh ((delK HEn.x p.n H2).map HEn.en) ch := ⟨_, rfl⟩
    rw [← hW5] at hd s5 I5
    have FF := Lib.hid (show ∃ H' ch' o', IxW base b mh ml va A H' ch' L cl o' W5 ∧ Stp (fun t => t = .having ∨ (∃ x, t = .inner x) ∨ ∃ x y, t = .list x y) o o' w W5 ∧ PairOut n p H H' from
      ⟨_, ch, o2, I5, S2.drew.trans (s5.mono fun _ h => .inl h), M2.gone I2.keysH (List.length_eq_zero_iff.1 (by rw [← HN2.out]; exact hz))⟩)
    clear s5 I5 hW5 I2d I2 S2 M2 F2 K2 P2
    subst hz
    go_wp2_with fail
    go_region
    go_wp2_with fail
    go_end0
    exact ⟨rfl, FF.out⟩
  · have hz2 : ¬ (N2 : Int) = 0 := by omega
    have FF := Lib.hid (show ∃ H' ch' o', IxW base b mh ml va A H' ch' L cl o' wc ∧ Stp (fun t => t = .having ∨ (∃ x, t = .inner x) ∨ ∃ x y, t = .list x y) o o' w wc ∧ PairOut n p H H' from
      ⟨H2, ch, o2, I2, S2, M2.stays I2.keysH (fun e => hz (by rw [HN2.out, e]; rfl)) F2⟩)
    clear I2 S2 M2 F2 K2 P2
    go_wp2_with fail
    go_end0
    exact ⟨rfl, FF.out⟩
end Go.Proofs.YteheojiokbdgmaaGreatDoor

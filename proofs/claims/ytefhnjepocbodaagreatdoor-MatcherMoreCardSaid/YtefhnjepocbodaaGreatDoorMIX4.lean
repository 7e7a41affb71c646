/- Layer 12: entries that go (plain maths, and the maps). -/
import Derived.Test.YtefhnjepocbodaaGreatDoorMIX2
namespace Go.Proofs.YtefhnjepocbodaaGreatDoor
open Go.RowKit Go.Lib

/-- On the way: a number is out of a list, and what is empty may be gone. -/
structure Mid (n : Int) (p : Pr) (H H' : List HEn) (k : HEn) : Prop where
  look : lookK HEn.x p.n H' = some k
  get : ∀ x y, getH H' x y = if x = p.n ∧ y = p.v then outZ (getH H x y) n else getH H x y
  others : Full H → ∀ h ∈ H', h.x ≠ p.n → h.vs ≠ [] ∧ ∀ e ∈ h.vs, e.l ≠ []
  rest : Full H → ∀ e ∈ k.vs, e.y ≠ p.v → e.l ≠ []
/-- What dropPair leaves of entries. -/
structure PairOut (n : Int) (p : Pr) (H H' : List HEn) : Prop where
  get : ∀ x y, getH H' x y = if x = p.n ∧ y = p.v then outZ (getH H x y) n else getH H x y
  full : Full H → Full H'

theorem getV_del {vs : List VEn} (hn : (vs.map VEn.y).Nodup) (y y' : List UInt8) : getV (delK VEn.y y vs) y' = if y' = y then [] else getV vs y' := by
  unfold getV
  rw [lookK_del VEn.y hn]
  by_cases e : y' = y
  · rw [if_pos e, if_pos e]; rfl
  · rw [if_neg e, if_neg e]
theorem lookK_upd {H : List HEn} {k : HEn} (vs : List VEn) (ci : Nat) (d : HEn) (hk : lookK HEn.x k.x H = some k) (hd : d.x = k.x) : lookK HEn.x k.x (putK HEn.x k.x (fun a => { a with vs := vs, ci := ci }) d H) = some { k with vs := vs, ci := ci } := by
  rw [lookK_put HEn.x (k := k.x) (k' := k.x) (f := fun a => { a with vs := vs, ci := ci }) (b := d) (fun _ => rfl) hd H, if_pos rfl, hk]; rfl
theorem getH_upd {H : List HEn} {k : HEn} (vs : List VEn) (ci : Nat) (d : HEn) (hk : lookK HEn.x k.x H = some k) (hd : d.x = k.x) (x y : List UInt8) : getH (putK HEn.x k.x (fun a => { a with vs := vs, ci := ci }) d H) x y = if x = k.x then getV vs y else getH H x y := by
  unfold getH
  rw [lookK_put HEn.x (k := k.x) (k' := x) (f := fun a => { a with vs := vs, ci := ci }) (b := d) (fun _ => rfl) hd H]
  by_cases e : x = k.x
  · rw [if_pos e, if_pos e, hk]; rfl
  · rw [if_neg e, if_neg e]
theorem upd_others {H : List HEn} {k : HEn} (vs : List VEn) (ci : Nat) (d : HEn) (hn : (H.map HEn.x).Nodup) (hd : d.x = k.x) {h : HEn} (hm : h ∈ putK HEn.x k.x (fun a => { a with vs := vs, ci := ci }) d H) (hx : h.x ≠ k.x) : h ∈ H := by
  rcases putK_mem HEn.x hn hm with ⟨h2, _⟩ | ⟨c, hc, rfl⟩ | ⟨_, rfl⟩
  · exact h2
  · exact absurd (lookK_mem HEn.x hc).2 hx
  · exact absurd hd hx

/-- The number is out. -/
theorem Mid.first {n : Int} {p : Pr} {H : List HEn} {k : HEn} (hk : lookK HEn.x p.n H = some k) (hn : (H.map HEn.x).Nodup) (hv : (k.vs.map VEn.y).Nodup) (v : Value) (c ci : Nat) :
    Mid n p H (putK HEn.x k.x (fun a => { a with vs := putV p.v v (outZ (getV k.vs p.v) n) c k.vs, ci := ci }) k H) { k with vs := putV p.v v (outZ (getV k.vs p.v) n) c k.vs, ci := ci } := by
  have hkx := (lookK_mem HEn.x hk).2
  have hk' := hk
  rw [← hkx] at hk'
  refine ⟨by rw [← hkx]; exact lookK_upd _ _ _ hk' rfl, fun x y => ?_, fun F h hm hx => F h (upd_others _ _ _ hn rfl hm (by rw [hkx]; exact hx)), fun F e he hy => ?_⟩
  rw [getH_upd _ _ _ hk' rfl, hkx]
  by_cases e : x = p.n
  · have hg : getH H x y = getV k.vs y := by unfold getH; rw [e, hk]; rfl
    rw [if_pos e, getV_put, hg]
    by_cases e2 : y = p.v
    · rw [if_pos e2, if_pos ⟨e, e2⟩, e2]
    · rw [if_neg e2, if_neg (fun h => e2 h.2)]
  · rw [if_neg e, if_neg (fun h => e h.1)]
  · rcases putK_mem VEn.y hv he with ⟨h2, _⟩ | ⟨c, hc, rfl⟩ | ⟨_, rfl⟩
    · exact (F k (lookK_mem HEn.x hk).1).2 e h2
    · exact absurd (lookK_mem VEn.y hc).2 hy
    · exact absurd rfl hy
/-- An empty list is gone. -/
theorem Mid.del {n : Int} {p : Pr} {H H1 : List HEn} {k : HEn} (M : Mid n p H H1 k) (hn : (H1.map HEn.x).Nodup) (hv : (k.vs.map VEn.y).Nodup) (h0 : getV k.vs p.v = []) :
    Mid n p H (putK HEn.x k.x (fun a => { a with vs := delK VEn.y p.v k.vs, ci := k.ci }) k H1) { k with vs := delK VEn.y p.v k.vs, ci := k.ci } := by
  have hkx := (lookK_mem HEn.x M.look).2
  have hk' := M.look
  rw [← hkx] at hk'
  refine ⟨by rw [← hkx]; exact lookK_upd _ _ _ hk' rfl, fun x y => ?_, fun F h hm hx => M.others F h (upd_others _ _ _ hn rfl hm (by rw [hkx]; exact hx)) hx, fun F e he hy => M.rest F e ((delK_mem VEn.y hv).1 he).1 hy⟩
  rw [← M.get, getH_upd _ _ _ hk' rfl, hkx]
  by_cases e : x = p.n
  · have hg : getH H1 x y = getV k.vs y := by unfold getH; rw [e, M.look]; rfl
    rw [if_pos e, getV_del hv, hg]
    by_cases e2 : y = p.v
    · rw [if_pos e2, e2, h0]
    · rw [if_neg e2]
  · rw [if_neg e]
/-- An empty map is gone. -/
theorem Mid.gone {n : Int} {p : Pr} {H H1 : List HEn} {k : HEn} (M : Mid n p H H1 k) (hn : (H1.map HEn.x).Nodup) (h0 : k.vs = []) : PairOut n p H (delK HEn.x p.n H1) := by
  refine ⟨fun x y => ?_, fun F h hm => ?_⟩
  · rw [← M.get]
    unfold getH
    rw [lookK_del HEn.x hn]
    by_cases e : x = p.n
    · rw [if_pos e, e, M.look]
      show [] = getV k.vs y
      rw [h0]; rfl
    · rw [if_neg e]
  · have := (delK_mem HEn.x hn).1 hm
    exact M.others F h this.1 this.2
/-- Nothing is empty. -/
theorem Mid.stays {n : Int} {p : Pr} {H H1 : List HEn} {k : HEn} (M : Mid n p H H1 k) (hn : (H1.map HEn.x).Nodup) (h0 : k.vs ≠ []) (h1 : Full H → ∀ e ∈ k.vs, e.l ≠ []) : PairOut n p H H1 := by
  refine ⟨M.get, fun F h hm => ?_⟩
  by_cases e : h.x = p.n
  · have := lookK_of_mem HEn.x hn hm
    rw [e, M.look] at this
    cases this
    exact ⟨h0, h1 F⟩
  · exact M.others F h hm e

theorem Mid.now {n : Int} {p : Pr} {H H1 : List HEn} {k : HEn} (M : Mid n p H H1 k) (hv : (k.vs.map VEn.y).Nodup) (h0 : getV k.vs p.v ≠ []) (F : Full H) : ∀ e ∈ k.vs, e.l ≠ [] := fun e he => by
  by_cases hy : e.y = p.v
  · have := lookK_of_mem VEn.y hv he
    rw [hy] at this
    unfold getV at h0
    rw [this] at h0
    exact h0
  · exact M.rest F e he hy
theorem Mid.then {n : Int} {p : Pr} {H H1 : List HEn} {k : HEn} (M : Mid n p H H1 k) (hv : (k.vs.map VEn.y).Nodup) (F : Full H) : ∀ e ∈ delK VEn.y p.v k.vs, e.l ≠ [] := fun e he => by
  have := (delK_mem VEn.y hv).1 he
  exact M.rest F e this.1 this.2

section
variable {base b mh ml : Nat} {va : Value} {A : List Int} {H : List HEn} {ch : Nat} {L : List LEn} {cl : Nat} {o o' : Own} {w w' : World}
theorem IxW.delList {k : HEn} (y : List UInt8) (h : IxW base b mh ml va A H ch L cl o w) (hk : lookK HEn.x k.x H = some k) (d : HEn) :
    Stp (fun t => t = .inner k.x ∨ ∃ y, t = .list k.x y) o o w (World.putMap w k.mi ((delK VEn.y y k.vs).map VEn.en) k.ci) ∧
      IxW base b mh ml va A (putK HEn.x k.x (fun a => { a with vs := delK VEn.y y k.vs, ci := k.ci }) d H) ch L cl o (World.putMap w k.mi ((delK VEn.y y k.vs).map VEn.en) k.ci) := by
  obtain ⟨o1, m1, l1, n1, n2⟩ := h.inner k (lookK_mem HEn.x hk).1
  have s2 : Stp (fun u => u = Tag.inner k.x) o o w (World.putMap w k.mi ((delK VEn.y y k.vs).map VEn.en) k.ci) := Stp.one o1 (turn_put (S := fun i => i = k.mi) rfl _ _)
  have st := s2.mono (T' := fun t => t = .inner k.x ∨ ∃ y, t = .list k.x y) (fun _ => .inl)
  refine ⟨st, h.setInner st (fun _ h => h) hk ⟨o1, mapIs_put (w := w) (mapIs_lt m1) _ _, fun e he => ?_, delK_nodup VEn.y n1, n2.del VEn.y⟩⟩
  exact (l1 e ((delK_mem VEn.y n1).1 he).1).step s2 nofun
theorem IxW.delInner (x : List UInt8) (h : IxW base b mh ml va A H ch L cl o w) :
    Stp (fun t => t = .having) o o w (World.putMap w mh ((delK HEn.x x H).map HEn.en) ch) ∧ IxW base b mh ml va A (delK HEn.x x H) ch L cl o (World.putMap w mh ((delK HEn.x x H).map HEn.en) ch) := by
  have s2 : Stp (fun u => u = Tag.having) o o w (World.putMap w mh ((delK HEn.x x H).map HEn.en) ch) := Stp.one h.oh (turn_put (S := fun i => i = mh) rfl _ _)
  exact ⟨s2, h.setHaving s2 (by rintro t rfl; exact ⟨nofun, nofun, nofun, nofun⟩) (mapIs_put (w := w) (mapIs_lt h.mapH) _ _) (fun e he => (h.inner e ((delK_mem HEn.x h.keysH).1 he).1).step s2 nofun (fun _ => nofun)) (delK_nodup HEn.x h.keysH) (h.bornH.del HEn.x)⟩
theorem IxW.delLab (n : Int) (h : IxW base b mh ml va A H ch L cl o w) :
    Stp (fun t => t = .labels) o o w (World.putMapJ w ml ((delK LEn.n n L).map LEn.en) cl) ∧ IxW base b mh ml va A H ch (delK LEn.n n L) cl o (World.putMapJ w ml ((delK LEn.n n L).map LEn.en) cl) := by
  have s2 : Stp (fun u => u = Tag.labels) o o w (World.putMapJ w ml ((delK LEn.n n L).map LEn.en) cl) := Stp.one h.ol (turn_putJ (S := fun i => i = ml) rfl _ _)
  exact ⟨s2, h.setLabels s2 (fun _ h => .inl h) (mapIsJ_put (w := w) (mapIsJ_lt h.mapL) _ _) (fun e he => LOk.step (h.labs e ((delK_mem LEn.n h.keysL).1 he).1) s2 nofun) (delK_nodup LEn.n h.keysL)⟩
theorem dpI (m ci : Nat) (y : List UInt8) (vs : List VEn) (h : MapIs m (vs.map VEn.en) ci w) (ty : TypeId) : (Builtin.delete_ #[103, 9] ty #[.map (some m), .string (bs y)]).run Tryz.prog w = .ok (.tuple #[]) (World.putMap w m ((delK VEn.y y vs).map VEn.en) ci) := by
  have := run_drop (P := Tryz.prog) Tryz.underlying103 Tryz.underlying9 h (bs y) ty
  rw [delE_map VEn.y VEn.en (fun _ => rfl)] at this
  exact this
theorem dpH (m ch : Nat) (x : List UInt8) (h : MapIs m (H.map HEn.en) ch w) (ty : TypeId) : (Builtin.delete_ #[74, 9] ty #[.map (some m), .string (bs x)]).run Tryz.prog w = .ok (.tuple #[]) (World.putMap w m ((delK HEn.x x H).map HEn.en) ch) := by
  have := run_drop (P := Tryz.prog) Tryz.underlying74 Tryz.underlying9 h (bs x) ty
  rw [delE_map HEn.x HEn.en (fun _ => rfl)] at this
  exact this
theorem dpL (m cl : Nat) (n : Int) (h : MapIsJ m (L.map LEn.en) cl w) (ty : TypeId) : (Builtin.delete_ #[75, 3] ty #[.map (some m), .int .i64 n]).run Tryz.prog w = .ok (.tuple #[]) (World.putMapJ w m ((delK LEn.n n L).map LEn.en) cl) := by
  have := run_dropJ (P := Tryz.prog) Tryz.underlying75 Tryz.underlying3 h n ty
  rw [delJ_map LEn.n LEn.en (fun _ => rfl)] at this
  exact this
theorem lnI (m ci : Nat) (vs : List VEn) (h : MapIs m (vs.map VEn.en) ci w) (ty : TypeId) : (Builtin.len_ #[103] ty #[.map (some m)]).run Tryz.prog w = .ok (goInt vs.length) w := by
  have := run_len_map (P := Tryz.prog) w 103 ty m _ _ (by kernel_rfl) h
  rw [this]
  simp
end
end Go.Proofs.YtefhnjepocbodaaGreatDoor

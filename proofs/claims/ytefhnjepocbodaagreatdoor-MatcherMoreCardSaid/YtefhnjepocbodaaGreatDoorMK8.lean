/- Layer 12: an index in memory, whatever is in it; what single changes of its parts leave. Layer 12: an index's maps looked up and stored into, by their keys. Layer 12: addPair, whatever is in the index (plain maths first). -/
import Derived.Test.YtefhnjepocbodaaGreatDoorMK6
import Derived.Deep.DeepCutAuto
import Derived.Deep.CutRange
import Derived.Deep.RegionHeld3
namespace Go.Proofs.YtefhnjepocbodaaGreatDoor
open Go.RowKit Go.Lib

structure VEn where
  y : List UInt8
  v : Value
  born : Nat
  l : List Int
def VEn.en (e : VEn) : En := ⟨bs e.y, e.v, e.born⟩
structure HEn where
  x : List UInt8
  mi : Nat
  born : Nat
  ci : Nat
  vs : List VEn
def HEn.en (h : HEn) : En := ⟨bs h.x, .map (some h.mi), h.born⟩
structure LEn where
  n : Int
  v : Value
  born : Nat
  ps : List Pr
def LEn.en (e : LEn) : EnJ := ⟨e.n, e.v, e.born⟩

def HOk (base : Nat) (o : Own) (w : World) (h : HEn) : Prop :=
  o h.mi = some (.inner h.x) ∧ MapIs h.mi (h.vs.map VEn.en) h.ci w ∧ (∀ e ∈ h.vs, SlO base o (.list h.x e.y) w 1 e.v e.l.length (ic e.l)) ∧ (h.vs.map VEn.y).Nodup ∧ BornK VEn.born h.ci h.vs
def LOk (base : Nat) (o : Own) (w : World) (e : LEn) : Prop := SlO base o (.lab e.n) w 2 e.v e.ps.length (prc e.ps)

/-- An index, part by part. -/
structure IxW (base b mh ml : Nat) (va : Value) (A : List Int) (H : List HEn) (ch : Nat) (L : List LEn) (cl : Nat) (o : Own) (w : World) : Prop where
  box : w.heap[b]? = some (.cells #[va, .map (some mh), .map (some ml)] 77)
  ob : o b = some .box
  oh : o mh = some .having
  ol : o ml = some .labels
  lt : OwnLt base o w
  all : SlO base o .all w 1 va A.length (ic A)
  mapH : MapIs mh (H.map HEn.en) ch w
  mapL : MapIsJ ml (L.map LEn.en) cl w
  inner : ∀ h ∈ H, HOk base o w h
  labs : ∀ e ∈ L, LOk base o w e
  keysH : (H.map HEn.x).Nodup
  keysL : (L.map LEn.n).Nodup
  bornH : BornK HEn.born ch H

theorem MapIs.step {T : Tag → Prop} {o o' : Own} {w w' : World} {m c : Nat} {es : List En} {t : Tag} (h : MapIs m es c w) (s : Stp T o o' w w') (hm : o m = some t) (hT : ¬ T t) : MapIs m es c w' := (s.block hm hT (mapIs_lt h)).trans h
theorem MapIsJ.step {T : Tag → Prop} {o o' : Own} {w w' : World} {m c : Nat} {es : List EnJ} {t : Tag} (h : MapIsJ m es c w) (s : Stp T o o' w w') (hm : o m = some t) (hT : ¬ T t) : MapIsJ m es c w' := (s.block hm hT (mapIsJ_lt h)).trans h
theorem HOk.step {T : Tag → Prop} {o o' : Own} {w w' : World} {base : Nat} {h : HEn} (k : HOk base o w h) (s : Stp T o o' w w') (h1 : ¬ T (.inner h.x)) (h2 : ∀ y, ¬ T (.list h.x y)) : HOk base o' w' h :=
  ⟨s.keep _ _ k.1, k.2.1.step s k.1 h1, fun e he => (k.2.2.1 e he).step s (h2 e.y), k.2.2.2⟩
theorem LOk.step {T : Tag → Prop} {o o' : Own} {w w' : World} {base : Nat} {e : LEn} (k : LOk base o w e) (s : Stp T o o' w w') (h1 : ¬ T (.lab e.n)) : LOk base o' w' e := SlO.step k s h1

section
variable {base b mh ml : Nat} {va : Value} {A : List Int} {H : List HEn} {ch : Nat} {L : List LEn} {cl : Nat} {o o' : Own} {w w' : World}
theorem IxW.lt_b (h : IxW base b mh ml va A H ch L cl o w) : b < w.heap.size := (h.lt b _ h.ob).2
theorem IxW.big (h : IxW base b mh ml va A H ch L cl o w) : base ≤ w.heap.size := by have := h.lt b _ h.ob; omega

/-- What turns nothing of it. -/
theorem IxW.other {T : Tag → Prop} (h : IxW base b mh ml va A H ch L cl o w) (s : Stp T o o' w w') (hT : ∀ t, ¬ T t) : IxW base b mh ml va A H ch L cl o' w' :=
  ⟨(s.block h.ob (hT _) h.lt_b).trans h.box, s.keep _ _ h.ob, s.keep _ _ h.oh, s.keep _ _ h.ol, s.lt h.lt h.big, h.all.step s (hT _), h.mapH.step s h.oh (hT _), h.mapL.step s h.ol (hT _),
    fun e he => (h.inner e he).step s (hT _) (fun _ => hT _), fun e he => (h.labs e he).step s (hT _), h.keysH, h.keysL, h.bornH⟩

/-- All of it gets another list. -/
theorem IxW.setAll {T : Tag → Prop} {va' : Value} {A' : List Int} (h : IxW base b mh ml va A H ch L cl o w) (s : Stp T o o' w w') (hT : ∀ t, T t → t = .all ∨ t = .box)
    (hb : w'.heap[b]? = some (.cells #[va', .map (some mh), .map (some ml)] 77)) (ha : SlO base o' .all w' 1 va' A'.length (ic A')) : IxW base b mh ml va' A' H ch L cl o' w' := by
  have N : ∀ t, t ≠ .all → t ≠ .box → ¬ T t := fun t h1 h2 h3 => (hT t h3).elim h1 h2
  exact ⟨hb, s.keep _ _ h.ob, s.keep _ _ h.oh, s.keep _ _ h.ol, s.lt h.lt h.big, ha, h.mapH.step s h.oh (N _ nofun nofun), h.mapL.step s h.ol (N _ nofun nofun),
    fun e he => (h.inner e he).step s (N _ nofun nofun) (fun _ => N _ nofun nofun), fun e he => (h.labs e he).step s (N _ nofun nofun), h.keysH, h.keysL, h.bornH⟩

/-- Its first map gets other entries. -/
theorem IxW.setHaving {T : Tag → Prop} {H' : List HEn} {ch' : Nat} (h : IxW base b mh ml va A H ch L cl o w) (s : Stp T o o' w w') (hT : ∀ t, T t → t ≠ .all ∧ t ≠ .box ∧ t ≠ .labels ∧ ∀ n, t ≠ .lab n)
    (hm : MapIs mh (H'.map HEn.en) ch' w') (hi : ∀ e ∈ H', HOk base o' w' e) (hk : (H'.map HEn.x).Nodup) (hbn : BornK HEn.born ch' H') : IxW base b mh ml va A H' ch' L cl o' w' :=
  ⟨(s.block h.ob (fun e => (hT _ e).2.1 rfl) h.lt_b).trans h.box, s.keep _ _ h.ob, s.keep _ _ h.oh, s.keep _ _ h.ol, s.lt h.lt h.big, h.all.step s (fun e => (hT _ e).1 rfl), hm, h.mapL.step s h.ol (fun e => (hT _ e).2.2.1 rfl),
    hi, fun e he => (h.labs e he).step s (fun k => (hT _ k).2.2.2 _ rfl), hk, h.keysL, hbn⟩

/-- Its second map gets other entries. -/
theorem IxW.setLabels {T : Tag → Prop} {L' : List LEn} {cl' : Nat} (h : IxW base b mh ml va A H ch L cl o w) (s : Stp T o o' w w') (hT : ∀ t, T t → t = .labels ∨ ∃ n, t = .lab n)
    (hm : MapIsJ ml (L'.map LEn.en) cl' w') (hi : ∀ e ∈ L', LOk base o' w' e) (hk : (L'.map LEn.n).Nodup) : IxW base b mh ml va A H ch L' cl' o' w' := by
  have N : ∀ t, t ≠ .labels → (∀ n, t ≠ .lab n) → ¬ T t := fun t h1 h2 h3 => (hT t h3).elim h1 fun ⟨n, e⟩ => h2 n e
  exact ⟨(s.block h.ob (N _ nofun nofun) h.lt_b).trans h.box, s.keep _ _ h.ob, s.keep _ _ h.oh, s.keep _ _ h.ol, s.lt h.lt h.big, h.all.step s (N _ nofun nofun), h.mapH.step s h.oh (N _ nofun nofun), hm,
    fun e he => (h.inner e he).step s (N _ nofun nofun) (fun _ => N _ nofun nofun), hi, h.keysH, hk, h.bornH⟩

/-- One inner map gets other entries. -/
theorem IxW.setInner {T : Tag → Prop} {k : HEn} {vs' : List VEn} {ci' : Nat} {d : HEn} (h : IxW base b mh ml va A H ch L cl o w) (s : Stp T o o' w w') (hT : ∀ t, T t → t = .inner k.x ∨ ∃ y, t = .list k.x y)
    (hl : lookK HEn.x k.x H = some k) (hi : HOk base o' w' { k with vs := vs', ci := ci' }) :
    IxW base b mh ml va A (putK HEn.x k.x (fun a => { a with vs := vs', ci := ci' }) d H) ch L cl o' w' := by
  have N : ∀ t, t ≠ .inner k.x → (∀ y, t ≠ .list k.x y) → ¬ T t := fun t h1 h2 h3 => (hT t h3).elim h1 fun ⟨n, e⟩ => h2 n e
  have hen : ∀ l : List HEn, (lookK HEn.x k.x l).isSome = true → (putK HEn.x k.x (fun a => { a with vs := vs', ci := ci' }) d l).map HEn.en = l.map HEn.en := by
    intro l
    induction l with
    | nil => intro h; cases h
    | cons a l ih =>
      intro h
      unfold putK
      unfold lookK at h
      by_cases e : k.x = a.x
      · rw [if_pos e]; rfl
      · rw [if_neg e] at h ⊢
        rw [List.map_cons, ih h]; rfl
  have hks : ∀ l : List HEn, (lookK HEn.x k.x l).isSome = true → (putK HEn.x k.x (fun a => { a with vs := vs', ci := ci' }) d l).map HEn.x = l.map HEn.x := by
    intro l
    induction l with
    | nil => intro h; cases h
    | cons a l ih =>
      intro h
      unfold putK
      unfold lookK at h
      by_cases e : k.x = a.x
      · rw [if_pos e]; rfl
      · rw [if_neg e] at h ⊢
        rw [List.map_cons, ih h]; rfl
  have hs : (lookK HEn.x k.x H).isSome = true := by rw [hl]; rfl
  have hbo : (putK HEn.x k.x (fun a => { a with vs := vs', ci := ci' }) d H).map HEn.born = H.map HEn.born := by rw [putK_borns HEn.x (k := k.x) (f := fun a => { a with vs := vs', ci := ci' }) (b := d) HEn.born (fun _ => rfl) H, if_pos hs]
  have hbn : BornK HEn.born ch (putK HEn.x k.x (fun a => { a with vs := vs', ci := ci' }) d H) := by
    refine ⟨fun a ha => ?_, by rw [hbo]; exact h.bornH.2⟩
    have : a.born ∈ H.map HEn.born := by rw [← hbo]; exact List.mem_map_of_mem ha
    obtain ⟨c, hc, e⟩ := List.mem_map.1 this
    rw [← e]; exact h.bornH.1 c hc
  refine ⟨(s.block h.ob (N _ nofun nofun) h.lt_b).trans h.box, s.keep _ _ h.ob, s.keep _ _ h.oh, s.keep _ _ h.ol, s.lt h.lt h.big, h.all.step s (N _ nofun nofun), by rw [hen H hs]; exact h.mapH.step s h.oh (N _ nofun nofun), h.mapL.step s h.ol (N _ nofun nofun),
    fun e he => ?_, fun e he => (h.labs e he).step s (N _ nofun nofun), by rw [hks H hs]; exact h.keysH, h.keysL, hbn⟩
  rcases putK_mem HEn.x h.keysH he with ⟨h1, h2⟩ | ⟨c, hc, rfl⟩ | ⟨h1, _⟩
  · exact (h.inner e h1).step s (N _ (fun e' => h2 (Tag.inner.inj e')) nofun) (fun y => N _ nofun fun z e' => h2 (Tag.list.inj e').1)
  · rw [hl] at hc; cases hc; exact hi
  · rw [hl] at h1; cases h1
end
end Go.Proofs.YtefhnjepocbodaaGreatDoor

namespace Go.Proofs.YtefhnjepocbodaaGreatDoor
open Go.RowKit Go.Lib

/-- Which series have a name and a value. -/
def getV (vs : List VEn) (y : List UInt8) : List Int := ((lookK VEn.y y vs).map VEn.l).getD []
def getH (H : List HEn) (x y : List UInt8) : List Int := ((lookK HEn.x x H).map fun h => getV h.vs y).getD []
def getL (L : List LEn) (n : Int) : List Pr := ((lookK LEn.n n L).map LEn.ps).getD []

theorem Stp.none {T : Tag → Prop} {o o' : Own} {w w' : World} (s : Stp T o o' w w') {k : Nat} (h : o k = none) (hk : k < w.heap.size) : o' k = none := by
  rcases e : o' k with _ | t
  · rfl
  · rcases s.new k t e with h1 | ⟨h1, _, _⟩
    · rw [h] at h1; cases h1
    · omega
theorem Stp.tag {base k : Nat} {o : Own} {w w' : World} (t : Tag) (b : Below w.heap.size w w') (hl : OwnLt base o w) (h1 : w.heap.size ≤ k) (h2 : k < w'.heap.size) : ∃ o', Stp (fun u => u = t) o o' w w' ∧ o' k = some t := by
  classical
  refine ⟨fun j => if j = k then some t else o j, ⟨Turn.of_below b, fun j u hj => ?_, fun j u hj => ?_⟩, by simp only [if_true]⟩
  · rw [if_neg (by have := (hl j u hj).2; omega)]; exact hj
  · by_cases e : j = k
    · rw [if_pos e] at hj; cases hj; exact .inr ⟨by omega, by omega, rfl⟩
    · rw [if_neg e] at hj; exact .inl hj

section
variable {base b mh ml : Nat} {va : Value} {A : List Int} {H : List HEn} {ch : Nat} {L : List LEn} {cl : Nat} {o o' : Own} {w w' : World}

theorem lkH (m ch : Nat) (x : List UInt8) (h : MapIs m (H.map HEn.en) ch w) : (Instr.lookup 74 (.map (some m)) (.string (bs x)) false).run Tryz.prog w = .ok (((lookK HEn.x x H).map fun h => Value.map (some h.mi)).getD (.map none)) w := by
  have := run_look (P := Tryz.prog) Tryz.underlying74 Tryz.underlying9 (.map none) zv_inner h (bs x) false
  rw [lookE_map HEn.x HEn.en (fun _ => rfl)] at this
  cases e : lookK HEn.x x H <;> rw [e] at this <;> exact this
theorem lkI (m ci : Nat) (y : List UInt8) (vs : List VEn) (h : MapIs m (vs.map VEn.en) ci w) : (Instr.lookup 103 (.map (some m)) (.string (bs y)) false).run Tryz.prog w = .ok (((lookK VEn.y y vs).map VEn.v).getD (.slice none 0 0)) w := by
  have := run_look (P := Tryz.prog) Tryz.underlying103 Tryz.underlying9 (.slice none 0 0) zv_list h (bs y) false
  rw [lookE_map VEn.y VEn.en (fun _ => rfl)] at this
  cases e : lookK VEn.y y vs <;> rw [e] at this <;> exact this
theorem lkL (m cl : Nat) (n : Int) (h : MapIsJ m (L.map LEn.en) cl w) : (Instr.lookup 75 (.map (some m)) (.int .i64 n) false).run Tryz.prog w = .ok (((lookK LEn.n n L).map LEn.v).getD (.slice none 0 0)) w := by
  have := run_lookJ (P := Tryz.prog) Tryz.underlying75 Tryz.underlying3 (.slice none 0 0) zv_set h n false
  rw [lookJ_map LEn.n LEn.en (fun _ => rfl)] at this
  cases e : lookK LEn.n n L <;> rw [e] at this <;> exact this

theorem stH (m ch mi : Nat) (x : List UInt8) (h : MapIs m (H.map HEn.en) ch w) (hx : lookK HEn.x x H = none) : (Instr.mapUpdate 74 (.map (some m)) (.string (bs x)) (.map (some mi))).run Tryz.prog w = .ok () (World.putMap w m ((putK HEn.x x id ⟨x, mi, ch, 0, []⟩ H).map HEn.en) (ch + 1)) := by
  have := run_store (P := Tryz.prog) Tryz.underlying74 Tryz.underlying9 h (bs x) (.map (some mi))
  rw [lookE_map HEn.x HEn.en (fun _ => rfl), hx, setE_map HEn.x HEn.en (fun _ => rfl) x _ ch id ⟨x, mi, ch, 0, []⟩ rfl H (fun a ha e => absurd e ((lookK_none HEn.x).1 hx a ha))] at this
  exact this
def putV (y : List UInt8) (v : Value) (l : List Int) (b : Nat) (vs : List VEn) : List VEn := putK VEn.y y (fun e => { e with v := v, l := l }) ⟨y, v, b, l⟩ vs
theorem stI (m ci : Nat) (y : List UInt8) (vs : List VEn) (v : Value) (l : List Int) (h : MapIs m (vs.map VEn.en) ci w) : (Instr.mapUpdate 103 (.map (some m)) (.string (bs y)) v).run Tryz.prog w = .ok () (World.putMap w m ((putV y v l ci vs).map VEn.en) (if (lookK VEn.y y vs).isSome then ci else ci + 1)) := by
  have := run_store (P := Tryz.prog) Tryz.underlying103 Tryz.underlying9 h (bs y) v
  rw [lookE_map VEn.y VEn.en (fun _ => rfl), setE_map VEn.y VEn.en (fun _ => rfl) y v ci (fun e => { e with v := v, l := l }) ⟨y, v, ci, l⟩ rfl vs (fun a ha e => rfl)] at this
  rw [Option.isSome_map] at this
  exact this
def putL (n : Int) (v : Value) (ps : List Pr) (b : Nat) (L : List LEn) : List LEn := putK LEn.n n (fun e => { e with v := v, ps := ps }) ⟨n, v, b, ps⟩ L
theorem stL (m cl : Nat) (n : Int) (v : Value) (ps : List Pr) (h : MapIsJ m (L.map LEn.en) cl w) : (Instr.mapUpdate 75 (.map (some m)) (.int .i64 n) v).run Tryz.prog w = .ok () (World.putMapJ w m ((putL n v ps cl L).map LEn.en) (if (lookK LEn.n n L).isSome then cl else cl + 1)) := by
  have := run_storeJ (P := Tryz.prog) Tryz.underlying75 Tryz.underlying3 h n v
  rw [lookJ_map LEn.n LEn.en (fun _ => rfl), setJ_map LEn.n LEn.en (fun _ => rfl) n v cl (fun e => { e with v := v, ps := ps }) ⟨n, v, cl, ps⟩ rfl L (fun a ha e => rfl)] at this
  rw [Option.isSome_map] at this
  exact this
theorem run_mapsome (m : Nat) (w : World) : (binOp BinOp.eql 103 (.map (some m)) (.map none)).run Tryz.prog w = .ok (.bool false) w := by
  have hu := run_underlying Tryz.underlying103
  have he : (Op.equal 103 (.map (some m)) (.map none)).run Tryz.prog w = .ok false w := by
    show (Op.equalIn (9999 + 1) _ _ _).run _ _ = _
    unfold Op.equalIn
    simp only [Sem.run_bind, hu, Result.andThen]
    rfl
  simp [binOp, go_sem, he]

/-- A new inner map is put into the first one. -/
theorem IxW.newInner {mi : Nat} {x : List UInt8} {W : World} (h : IxW base b mh ml va A H ch L cl o w) (hx : lookK HEn.x x H = none) (hb : Below w.heap.size w W) (hm : MapIs mi [] 0 W) (h1 : w.heap.size ≤ mi) :
    ∃ o', Stp (fun t => t = .having ∨ t = .inner x) o o' w (World.putMap W mh ((putK HEn.x x id ⟨x, mi, ch, 0, []⟩ H).map HEn.en) (ch + 1)) ∧
      IxW base b mh ml va A (putK HEn.x x id ⟨x, mi, ch, 0, []⟩ H) (ch + 1) L cl o' (World.putMap W mh ((putK HEn.x x id ⟨x, mi, ch, 0, []⟩ H).map HEn.en) (ch + 1)) := by
  obtain ⟨o', s1, e1⟩ := Stp.tag (.inner x) hb h.lt h1 (mapIs_lt hm)
  have hmh := mapIs_lt h.mapH
  have hmhW : mh < W.heap.size := Nat.lt_of_lt_of_le hmh hb.size
  have s2 : Stp (fun u => u = Tag.having) o' o' W (World.putMap W mh ((putK HEn.x x id ⟨x, mi, ch, 0, []⟩ H).map HEn.en) (ch + 1)) := Stp.one (s1.keep _ _ h.oh) (turn_put (S := fun i => i = mh) rfl _ _)
  have s : Stp (fun t => t = .having ∨ t = .inner x) o o' w (World.putMap W mh ((putK HEn.x x id ⟨x, mi, ch, 0, []⟩ H).map HEn.en) (ch + 1)) := (s1.mono fun _ h => .inr h).trans (s2.mono fun _ h => .inl h)
  refine ⟨o', s, h.setHaving s (by rintro t (rfl | rfl) <;> exact ⟨nofun, nofun, nofun, nofun⟩) (mapIs_put (w := W) hmhW _ _) (fun e he => ?_) (putK_nodup HEn.x (k := x) (f := id) (b := ⟨x, mi, ch, 0, []⟩) (fun _ => rfl) rfl h.keysH) (by have := h.bornH.put HEn.x (k := x) (f := id) (b := ⟨x, mi, ch, 0, []⟩) (fun _ => rfl) rfl; rw [hx] at this; exact this)⟩
  rcases putK_mem HEn.x h.keysH he with ⟨h2, h3⟩ | ⟨c, hc, _⟩ | ⟨_, rfl⟩
  · exact (h.inner e h2).step s (by rintro (e' | e'); cases e'; exact h3 (Tag.inner.inj e')) (fun y => by rintro (e' | e') <;> cases e')
  · rw [hx] at hc; cases hc
  · exact ⟨e1, hm.step s2 e1 nofun, (fun e he => by cases he), List.nodup_nil, BornK.nil _ _⟩

/-- A list that was made of the old one is put into an inner map. -/
theorem IxW.setList {k : HEn} {y : List UInt8} {v : Value} {l : List Int} {w1 : World} (h : IxW base b mh ml va A H ch L cl o w) (hk : lookK HEn.x k.x H = some k) (s : Stp (fun t => t = .list k.x y) o o' w w1) (hs : SlO base o' (.list k.x y) w1 1 v l.length (ic l)) (ci' : Nat) (d : HEn) (hci : ci' = if (lookK VEn.y y k.vs).isSome then k.ci else k.ci + 1) :
    Stp (fun t => t = .inner k.x ∨ ∃ y, t = .list k.x y) o o' w (World.putMap w1 k.mi ((putV y v l k.ci k.vs).map VEn.en) ci') ∧
      IxW base b mh ml va A (putK HEn.x k.x (fun a => { a with vs := putV y v l k.ci k.vs, ci := ci' }) d H) ch L cl o' (World.putMap w1 k.mi ((putV y v l k.ci k.vs).map VEn.en) ci') := by
  obtain ⟨o1, m1, l1, n1, n2⟩ := h.inner k (lookK_mem HEn.x hk).1
  have s2 : Stp (fun u => u = Tag.inner k.x) o' o' w1 (World.putMap w1 k.mi ((putV y v l k.ci k.vs).map VEn.en) ci') := Stp.one (s.keep _ _ o1) (turn_put (S := fun i => i = k.mi) rfl _ _)
  have st : Stp (fun t => t = .inner k.x ∨ ∃ y, t = .list k.x y) o o' w (World.putMap w1 k.mi ((putV y v l k.ci k.vs).map VEn.en) ci') := (s.mono fun _ h => .inr ⟨y, h⟩).trans (s2.mono fun _ h => .inl h)
  refine ⟨st, h.setInner st (fun _ h => h) hk ⟨s2.keep _ _ (s.keep _ _ o1), mapIs_put (w := w1) (Nat.lt_of_lt_of_le (mapIs_lt m1) s.turn.size) _ _, fun e he => ?_, putK_nodup VEn.y (k := y) (f := fun e => { e with v := v, l := l }) (b := ⟨y, v, k.ci, l⟩) (fun _ => rfl) rfl n1, by rw [hci]; exact n2.put VEn.y (k := y) (f := fun e => { e with v := v, l := l }) (b := ⟨y, v, k.ci, l⟩) (fun _ => rfl) rfl⟩⟩
  rcases putK_mem VEn.y n1 he with ⟨h2, h3⟩ | ⟨c, hc, rfl⟩ | ⟨_, rfl⟩
  · exact ((l1 e h2).step s (fun e' => h3 (Tag.list.inj e').2)).step s2 nofun
  · have hy := (lookK_mem VEn.y hc).2
    show SlO base o' (.list k.x c.y) _ 1 v l.length (ic l)
    rw [hy]
    exact hs.step s2 nofun
  · exact hs.step s2 nofun

/-- A series' labels are put into the second map. -/
theorem IxW.setLab {n : Int} {v : Value} {ps : List Pr} {w1 : World} (h : IxW base b mh ml va A H ch L cl o w) (s : Stp (fun t => t = .lab n) o o' w w1) (hs : SlO base o' (.lab n) w1 2 v ps.length (prc ps)) (cl' : Nat) :
    Stp (fun t => t = .labels ∨ ∃ n, t = .lab n) o o' w (World.putMapJ w1 ml ((putL n v ps cl L).map LEn.en) cl') ∧
      IxW base b mh ml va A H ch (putL n v ps cl L) cl' o' (World.putMapJ w1 ml ((putL n v ps cl L).map LEn.en) cl') := by
  have s2 : Stp (fun u => u = Tag.labels) o' o' w1 (World.putMapJ w1 ml ((putL n v ps cl L).map LEn.en) cl') := Stp.one (s.keep _ _ h.ol) (turn_putJ (S := fun i => i = ml) rfl _ _)
  have st : Stp (fun t => t = .labels ∨ ∃ n, t = .lab n) o o' w (World.putMapJ w1 ml ((putL n v ps cl L).map LEn.en) cl') := (s.mono fun _ h => .inr ⟨n, h⟩).trans (s2.mono fun _ h => .inl h)
  refine ⟨st, h.setLabels st (fun _ h => h) (mapIsJ_put (w := w1) (Nat.lt_of_lt_of_le (mapIsJ_lt h.mapL) s.turn.size) _ _) (fun e he => ?_) (putK_nodup LEn.n (k := n) (f := fun e => { e with v := v, ps := ps }) (b := ⟨n, v, cl, ps⟩) (fun _ => rfl) rfl h.keysL)⟩
  rcases putK_mem LEn.n h.keysL he with ⟨h2, h3⟩ | ⟨c, hc, rfl⟩ | ⟨_, rfl⟩
  · exact ((h.labs e h2).step s (fun e' => h3 (Tag.lab.inj e'))).step s2 nofun
  · have hy := (lookK_mem LEn.n hc).2
    show SlO base o' (.lab c.n) _ 2 v ps.length (prc ps)
    rw [hy]
    exact hs.step s2 nofun
  · exact hs.step s2 nofun
end
end Go.Proofs.YtefhnjepocbodaaGreatDoor

namespace Go.Proofs.YtefhnjepocbodaaGreatDoor
open Go.RowKit Go.Lib

def Full (H : List HEn) : Prop := ∀ h ∈ H, h.vs ≠ [] ∧ ∀ e ∈ h.vs, e.l ≠ []
/-- There is an inner map for a name. -/
structure First (x : List UInt8) (H H1 : List HEn) (k : HEn) : Prop where
  look : lookK HEn.x x H1 = some k
  same : ∀ x' y', getH H1 x' y' = getH H x' y'
  full : Full H → (∀ h ∈ H1, h.x ≠ x → h.vs ≠ [] ∧ ∀ e ∈ h.vs, e.l ≠ []) ∧ ∀ e ∈ k.vs, e.l ≠ []
  was : (∃ y, getH H x y ≠ []) → H1 = H
theorem First.refl {x : List UInt8} {H : List HEn} {k : HEn} (h : lookK HEn.x x H = some k) : First x H H k :=
  ⟨h, fun _ _ => rfl, fun F => ⟨fun e he _ => F e he, (F k (lookK_mem HEn.x h).1).2⟩, fun _ => rfl⟩
theorem First.new {x : List UInt8} {H : List HEn} (mi ch : Nat) (h : lookK HEn.x x H = none) (hn : (H.map HEn.x).Nodup) : First x H (putK HEn.x x id ⟨x, mi, ch, 0, []⟩ H) ⟨x, mi, ch, 0, []⟩ := by
  have hl := fun k' => lookK_put HEn.x (k := x) (k' := k') (f := id) (b := (⟨x, mi, ch, 0, []⟩ : HEn)) (fun _ => rfl) rfl H
  refine ⟨by rw [hl, if_pos rfl, h]; rfl, fun x' y' => ?_, fun F => ⟨fun e he hne => ?_, fun e he => (by cases he)⟩, fun ⟨y, hy⟩ => absurd (by unfold getH; rw [h]; rfl) hy⟩
  · unfold getH
    rw [hl]
    by_cases e : x' = x
    · subst e; rw [if_pos rfl, h]; rfl
    · rw [if_neg e]
  · rcases putK_mem HEn.x hn he with ⟨h2, _⟩ | ⟨c, hc, _⟩ | ⟨_, rfl⟩
    · exact F e h2
    · rw [h] at hc; cases hc
    · exact absurd rfl hne
theorem getV_put (y : List UInt8) (v : Value) (l : List Int) (c : Nat) (vs : List VEn) (y' : List UInt8) : getV (putV y v l c vs) y' = if y' = y then l else getV vs y' := by
  unfold getV putV
  rw [lookK_put VEn.y (k := y) (k' := y') (f := fun e => { e with v := v, l := l }) (b := (⟨y, v, c, l⟩ : VEn)) (fun _ => rfl) rfl vs]
  by_cases e : y' = y
  · rw [if_pos e, if_pos e]; cases lookK VEn.y y vs <;> rfl
  · rw [if_neg e, if_neg e]
theorem putV_ne (y : List UInt8) (v : Value) (l : List Int) (c : Nat) (vs : List VEn) : putV y v l c vs ≠ [] := by
  intro h
  have h1 := lookK_put VEn.y (k := y) (k' := y) (f := fun e => { e with v := v, l := l }) (b := (⟨y, v, c, l⟩ : VEn)) (fun _ => rfl) rfl vs
  unfold putV at h
  rw [h, if_pos rfl] at h1
  cases h1
theorem First.set {x y : List UInt8} {H H1 : List HEn} {k : HEn} (F : First x H H1 k) (hn : (H1.map HEn.x).Nodup) (hv : (k.vs.map VEn.y).Nodup) (v : Value) (l : List Int) (hl : l ≠ []) (c c' : Nat) :
    (∀ x' y', getH (putK HEn.x k.x (fun a => { a with vs := putV y v l c k.vs, ci := c' }) k H1) x' y' = if x' = x ∧ y' = y then l else getH H x' y') ∧
      (Full H → Full (putK HEn.x k.x (fun a => { a with vs := putV y v l c k.vs, ci := c' }) k H1)) := by
  have hkx := (lookK_mem HEn.x F.look).2
  have hlk := F.look
  rw [← hkx] at hlk
  refine ⟨fun x' y' => ?_, fun hF e he => ?_⟩
  · rw [← F.same]
    conv => lhs; unfold getH
    rw [lookK_put HEn.x (k := k.x) (k' := x') (f := fun a => { a with vs := putV y v l c k.vs, ci := c' }) (b := k) (fun _ => rfl) rfl H1, hlk, hkx]
    by_cases e : x' = x
    · subst e
      rw [if_pos rfl]
      show getV (putV y v l c k.vs) y' = _
      rw [getV_put]
      by_cases e2 : y' = y
      · rw [if_pos e2, if_pos ⟨rfl, e2⟩]
      · rw [if_neg e2, if_neg (fun h => e2 h.2)]
        unfold getH
        rw [F.look]; rfl
    · rw [if_neg e, if_neg (fun h => e h.1)]
      rfl
  · rcases putK_mem HEn.x hn he with ⟨h2, h3⟩ | ⟨a, ha, rfl⟩ | ⟨h1, _⟩
    · exact (F.full hF).1 e h2 (by rw [← hkx]; exact h3)
    · refine ⟨putV_ne _ _ _ _ _, fun e he => ?_⟩
      rcases putK_mem VEn.y hv he with ⟨h2, _⟩ | ⟨c, _, rfl⟩ | ⟨_, rfl⟩
      · exact (F.full hF).2 e h2
      · exact hl
      · exact hl
    · rw [hlk] at h1; cases h1
theorem getL_put (n : Int) (v : Value) (ps : List Pr) (c : Nat) (L : List LEn) (m : Int) : getL (putL n v ps c L) m = if m = n then ps else getL L m := by
  unfold getL putL
  rw [lookK_put LEn.n (k := n) (k' := m) (f := fun e => { e with v := v, ps := ps }) (b := (⟨n, v, c, ps⟩ : LEn)) (fun _ => rfl) rfl L]
  by_cases e : m = n
  · rw [if_pos e, if_pos e]; cases lookK LEn.n n L <;> rfl
  · rw [if_neg e, if_neg e]
theorem putZ_ne (l : List Int) (n : Int) : putZ l n ≠ [] := fun h => by
  have := (putZ_mem l n n).2 (.inl rfl)
  rw [h] at this
  cases this
end Go.Proofs.YtefhnjepocbodaaGreatDoor

/- Layer 14: Tables of made tables is the document's, walked. Layer 14: awake, walked. Layer 14: a slice of samples of series that came in, opened. -/
import Derived.Test.YtfckgcckpfklaaaGreatDoorMWD
import Derived.Deep.SlicePairs
import Derived.Deep.Slices
import Derived.OpenShut
import Derived.ChangeSlices
namespace Go.Proofs.YtfckgcckpfklaaaGreatDoor
open Go.RowKit Go.Lib Hp
set_option linter.unusedVariables false

abbrev Ps := List (List Pr × Sp)
theorem lookP_append (qs : Ps) (ls : List Pr) (a : Int) : ∀ ps : Ps, lookP (ps ++ qs) ls a = (lookP ps ls a).or (lookP qs ls a)
  | [] => rfl
  | p :: ps => by simp only [List.cons_append, lookP]; rw [lookP_append qs ls a ps, Option.or_assoc]
theorem addF_nil (ps : Ps) : UpT (addF [] ps) ∧ (∀ r ∈ addF [] ps, r.ss ≠ []) ∧ ∀ ls a, lookT (addF [] ps) ls a = lookP ps ls a := by
  obtain ⟨h1, h2, h3⟩ := addF_look ps [] upT_nil (fun r hr => absurd hr (by simp))
  exact ⟨h1, h2, fun ls a => by rw [h3]; rfl⟩
/-- Pairs that say the same make the same table. -/
theorem addF_one {ps qs : Ps} (h : ∀ ls a, lookP ps ls a = lookP qs ls a) : addF [] ps = addF [] qs := by
  obtain ⟨a1, a2, a3⟩ := addF_nil ps
  obtain ⟨b1, b2, b3⟩ := addF_nil qs
  exact upT_one a1 b1 a2 b2 fun ls a => by rw [a3, b3, h]
theorem insT_len (l : List Rw) (ls : List Pr) (s : Sp) : (insT l ls s).length ≤ l.length + 1 := by
  induction l with
  | nil => simp [insT]
  | cons x l ih =>
    unfold insT
    split
    · simp
    · split
      · simp
      · simp only [List.length_cons]; omega
theorem insT_ss {l : List Rw} {K : Nat} (ls : List Pr) (s : Sp) (h : ∀ r ∈ l, r.ss.length ≤ K) : ∀ r ∈ insT l ls s, r.ss.length ≤ K + 1 := by
  induction l with
  | nil => intro r hr; simp [insT] at hr; subst hr; simp
  | cons x l ih =>
    intro r hr
    unfold insT at hr
    split at hr
    · simp only [List.mem_cons] at hr
      rcases hr with rfl | hr
      · show (putS x.ss s).length ≤ K + 1
        have := putS_one x.ss s
        have := h x (by simp)
        omega
      · have := h r (by simp [hr]); omega
    · split at hr
      · simp only [List.mem_cons] at hr
        rcases hr with rfl | rfl | hr
        · simp
        · have := h r (by simp); omega
        · have := h r (by simp [hr]); omega
      · simp only [List.mem_cons] at hr
        rcases hr with rfl | hr
        · have := h r (by simp); omega
        · exact ih (fun r hr => h r (by simp [hr])) r hr
theorem addF_len : ∀ (ps : Ps) (t : List Rw) (K : Nat), UpT t → (∀ r ∈ t, r.ss.length ≤ K) → (addF t ps).length ≤ t.length + ps.length ∧ ∀ r ∈ addF t ps, r.ss.length ≤ K + ps.length
  | [], t, K, _, h => ⟨Nat.le_refl _, h⟩
  | p :: ps, t, K, hu, h => by
    have e : addF t (p :: ps) = addF (insT t p.1 p.2) ps := by rw [← addT_ins t p.1 p.2 hu]; rfl
    obtain ⟨i1, i2⟩ := addF_len ps (insT t p.1 p.2) (K + 1) (insT_up p.1 p.2 hu) (insT_ss p.1 p.2 h)
    rw [e]
    have := insT_len t p.1 p.2
    simp only [List.length_cons]
    exact ⟨by omega, fun r hr => by have := i2 r hr; omega⟩
theorem addF_len0 (ps : Ps) : (addF [] ps).length ≤ ps.length ∧ ∀ r ∈ addF [] ps, r.ss.length ≤ ps.length := by
  obtain ⟨h1, h2⟩ := addF_len ps [] 0 upT_nil (fun r hr => absurd hr (by simp))
  exact ⟨by simpa using h1, fun r hr => by have := h2 r hr; omega⟩
theorem fo'_flat (ls : List Pr) (a : Int) : ∀ (PS : List Ps) (k : Nat), k ≤ PS.length → fo' (fun p => lookP (PS.getD p []) ls a) k = lookP (PS.take k).flatten ls a
  | PS, 0, _ => by simp [fo', lookP]
  | PS, k + 1, hk => by
    have hq : PS[k]? = some PS[k] := List.getElem?_eq_getElem (by omega)
    rw [fo', fo'_flat ls a PS k (by omega), List.take_add_one, hq]
    show _ = lookP (PS.take k ++ [PS[k]]).flatten ls a
    rw [List.flatten_append, lookP_append]
    have e : PS.getD k [] = PS[k] := by simp [show k < PS.length by omega]
    rw [e]
    simp

theorem TabC.sharp {w : World} {K K' : Nat} {v : Value} {rows : List Rw} (h : TabC w K v rows) (hk : ∀ r ∈ rows, r.ss.length ≤ K') : TabC w K' v rows := by
  obtain ⟨h0, qs, h1, h2, h3⟩ := h
  refine ⟨h0, qs, h1, h2, fun q hq => ⟨⟨(h3 q hq).1.l, (h3 q hq).1.s, (h3 q hq).1.hl, hk q.r (by rw [← h1]; exact List.mem_map.2 ⟨q, hq, rfl⟩)⟩, (h3 q hq).2⟩⟩
theorem TabC.empty (w : World) (K : Nat) : TabC w K (.slice none 0 0) [] :=
  ⟨⟨by simp, none, 0, rfl, Nat.le_refl _⟩, [], rfl, Rd.of_sl (Sl.nil w 0 2), fun q hq => absurd hq (by simp)⟩
/-- Made tables in a slice. -/
def TsR (w : World) (v : Value) (PS : List Ps) : Prop :=
  ∃ a cap g off, v = .slice a PS.length cap ∧ (0 < PS.length → a = some ⟨g, off, none⟩ ∧ g < w.heap.size) ∧ ∀ p ps, PS[p]? = some ps → ∃ u, w.cell? ⟨g, off + p, none⟩ = some u ∧ TabC w 1000 u (addF [] ps)
theorem TsR.lit (w : World) (us : List Value) (PS : List Ps) (e : TypeId) (hl : us.length = PS.length) (h : ∀ (p : Nat) (u : Value) (ps : Ps), us[p]? = some u → PS[p]? = some ps → TabC w 1000 u (addF [] ps)) :
    TsR (w.alloc (.cells us.toArray e)) (.slice (some ⟨w.heap.size, 0, none⟩) us.length us.length) PS := by
  refine ⟨some ⟨w.heap.size, 0, none⟩, us.length, w.heap.size, 0, by rw [hl], fun _ => ⟨rfl, by simp⟩, fun p ps hp => ?_⟩
  have hpl : p < us.length := by rw [hl]; exact (List.getElem?_eq_some_iff.1 hp).1
  have hu : us[p]? = some us[p] := List.getElem?_eq_getElem hpl
  refine ⟨us[p], ?_, (h p _ ps hu hp).on ((Below.refl _ _).alloc (Nat.le_refl _) _)⟩
  have := cell_of_row (w.alloc (.cells us.toArray e)) w.heap.size (0 + p) us.toArray e (0, 0) (heap_alloc_new w _)
  rw [this]
  simp [hu]
theorem TsR.on {w w' : World} {v : Value} {PS : List Ps} (h : TsR w v PS) (b : Below w.heap.size w w') : TsR w' v PS := by
  obtain ⟨a, cap, g, off, hv, hg, hc⟩ := h
  refine ⟨a, cap, g, off, hv, fun h0 => ⟨(hg h0).1, Nat.lt_of_lt_of_le (hg h0).2 b.size⟩, fun p ps hp => ?_⟩
  obtain ⟨u, h1, h2⟩ := hc p ps hp
  have h0 : 0 < PS.length := by have := (List.getElem?_eq_some_iff.1 hp).1; omega
  exact ⟨u, (b.cell (p := ⟨g, off + p, none⟩) (hg h0).2).trans h1, h2.on b⟩
theorem totR_le (c : Nat → List Rq) (f : Nat → Nat) : ∀ k, (∀ p, p < k → (c p).length ≤ f p) → totR c k ≤ ((List.range k).map f).sum
  | 0, _ => by simp [totR]
  | k + 1, h => by
    have h1 := totR_le c f k (fun p hp => h p (by omega))
    have h2 := h k (by omega)
    simp only [totR, List.range_succ, List.map_append, List.sum_append, List.map_cons, List.map_nil, List.sum_cons, List.sum_nil]
    omega
theorem sum_flat (PS : List Ps) : ∀ k, k ≤ PS.length → ((List.range k).map fun p => (PS.getD p []).length).sum = (PS.take k).flatten.length
  | 0, _ => by simp
  | k + 1, hk => by
    have hq : PS[k]? = some PS[k] := List.getElem?_eq_getElem (by omega)
    have e : PS.getD k [] = PS[k] := by simp [show k < PS.length by omega]
    rw [List.range_succ, List.map_append, List.sum_append, sum_flat PS k (by omega), List.take_add_one, hq]
    show _ = (PS.take k ++ [PS[k]]).flatten.length
    rw [List.flatten_append, List.length_append]
    simp only [List.map_cons, List.map_nil, List.sum_cons, List.sum_nil, Nat.add_zero, e]
    simp
theorem tables_P (v : Value) (PS : List Ps) (w : World) (h : TsR w v PS) (hk : PS.length ≤ 100) (hn : PS.flatten.length ≤ 1000) :
    Calls Tryz.prog 11 #[v] w fun e w' => ∃ v', e = .returned v' ∧ TabC w' 1000 v' (addF [] PS.flatten) ∧ Below w.heap.size w w' := by
  obtain ⟨a, cap, g, off, rfl, hg, hc⟩ := h
  have hex : ∀ p, ∃ uq : Value × List Rq, p < PS.length → w.cell? ⟨g, off + p, none⟩ = some uq.1 ∧ RdQ w uq.1 uq.2 ∧ Capd uq.1 uq.2.length ∧ rws uq.2 = addF [] (PS.getD p []) ∧ ∀ q ∈ uq.2, Capd q.b q.r.ss.length ∧ q.r.ss.length ≤ 1000 := fun p => by
    by_cases hp : p < PS.length
    · obtain ⟨u, h1, h2⟩ := hc p PS[p] (List.getElem?_eq_getElem hp)
      obtain ⟨⟨h20, h2c⟩, qs, h21, h22, h23⟩ := h2
      have hl : (addF [] PS[p]).length = qs.length := by rw [← h21, List.length_map]
      rw [hl] at h22 h2c
      have e : PS.getD p [] = PS[p] := by simp [hp]
      exact ⟨(u, qs), fun _ => ⟨h1, ⟨h22, fun q hq => (h23 q hq).1.mono (by omega)⟩, h2c, by rw [e]; exact h21, fun q hq => ⟨(h23 q hq).2, (h23 q hq).1.hs⟩⟩⟩
    · exact ⟨(.slice none 0 0, []), fun h => absurd h hp⟩
  have hex2 := fun p => (hex p).choose_spec
  obtain ⟨iv, hiv⟩ : ∃ iv : Nat → Value, iv = fun p => (hex p).choose.1 := ⟨_, rfl⟩
  obtain ⟨cur, hcur⟩ : ∃ cur : Nat → List Rq, cur = fun p => (hex p).choose.2 := ⟨_, rfl⟩
  have key : ∀ p, p < PS.length → w.cell? ⟨g, off + p, none⟩ = some (iv p) ∧ RdQ w (iv p) (cur p) ∧ Capd (iv p) (cur p).length ∧ rws (cur p) = addF [] (PS.getD p []) ∧ ∀ q ∈ cur p, Capd q.b q.r.ss.length ∧ q.r.ss.length ≤ 1000 := fun p hp => by
    rw [hiv, hcur]; exact hex2 p hp
  have hup : ∀ p, p < PS.length → UpT (rws (cur p)) := fun p hp => by rw [(key p hp).2.2.2.1]; exact (addF_nil _).1
  have hT : totR cur PS.length ≤ 1000 := by
    have h1 := totR_le cur (fun p => (PS.getD p []).length) PS.length (fun p hp => by
      have := (addF_len0 (PS.getD p [])).1
      rw [← (key p hp).2.2.2.1] at this
      simpa [rws] using this)
    rw [sum_flat PS PS.length (Nat.le_refl _), List.take_length] at h1
    omega
  refine (tables_any (.slice a PS.length cap) PS.length cur iv (totR cur PS.length) w ⟨⟨a, cap, g, off, rfl, hg, fun p hp => (key p hp).1⟩, fun p hp => (key p hp).2.1, fun p hp => (key p hp).2.2.1⟩ (by omega) rfl hT (fun p hp => (key p hp).2.2.2.2)).mono ?_
  rintro e w' ⟨v', rows, rfl, ht, htb, hb⟩
  obtain ⟨t1, t2, t3⟩ := tables_look hup htb
  have hrows : rows = addF [] PS.flatten := by
    obtain ⟨a1, a2, a3⟩ := addF_nil PS.flatten
    refine upT_one t1 a1 (t3 fun p hp q hq => ?_) a2 fun ls t => ?_
    · have hm : q.r ∈ rws (cur p) := List.mem_map.2 ⟨q, hq, rfl⟩
      rw [(key p hp).2.2.2.1] at hm
      exact (addF_nil _).2.1 _ hm
    · rw [t2, a3]
      have := fo'_flat ls t PS PS.length (Nat.le_refl _)
      rw [List.take_length] at this
      rw [← this]
      refine fo'_congr _ fun p hp => ?_
      rw [(key p hp).2.2.2.1, (addF_nil _).2.2]
  subst hrows
  refine ⟨v', rfl, ht.sharp fun r hr => ?_, hb⟩
  have := (addF_len0 PS.flatten).2 r hr
  omega
end Go.Proofs.YtfckgcckpfklaaaGreatDoor

namespace Go.Proofs.YtfckgcckpfklaaaGreatDoor
open Go.RowKit Go.Lib Hp
set_option linter.unusedVariables false

def onc (zs : List On) : List Value := zs.flatMap fun z => [.int .u8 z.n, .int .i64 z.t, .int .u64 z.v]
theorem onc_at : ∀ (l : List On) (i : Nat) (z : On), l[i]? = some z → (onc l)[i * 3]? = some (.int .u8 z.n) ∧ (onc l)[i * 3 + 1]? = some (.int .i64 z.t) ∧ (onc l)[i * 3 + 2]? = some (.int .u64 z.v)
  | [], i, s, h => by simp at h
  | x :: l, 0, s, h => by
    simp only [List.getElem?_cons_zero, Option.some.injEq] at h
    subst h
    exact ⟨rfl, rfl, rfl⟩
  | x :: l, i + 1, s, h => by
    have ih := onc_at l i s (by simpa using h)
    refine ⟨?_, ?_, ?_⟩
    · rw [show (i + 1) * 3 = i * 3 + 1 + 1 + 1 by omega]; exact ih.1
    · rw [show (i + 1) * 3 + 1 = i * 3 + 1 + 1 + 1 + 1 by omega]; exact ih.2.1
    · rw [show (i + 1) * 3 + 2 = i * 3 + 2 + 1 + 1 + 1 by omega]; exact ih.2.2
theorem OnR.lit (w : World) (zs : List On) (cs : Array Value) (e : TypeId) (hcs : cs.toList = onc zs) (hl : zs.length ≤ 40) (hr : ∀ z ∈ zs, (0 ≤ z.n ∧ z.n ≤ 255) ∧ -9223372036854775808 ≤ z.t ∧ z.t ≤ 9223372036854775807) :
    OnR (w.alloc (.cells cs e)) (some ⟨w.heap.size, 0, none⟩) zs.length zs := by
  refine ⟨by omega, by unfold maxLen; omega, fun _ => ⟨w.heap.size, 0, rfl, by simp, fun i z hz => ?_⟩, hr⟩
  obtain ⟨h0, h1, h2⟩ := onc_at zs i z hz
  have hc : ∀ j, (w.alloc (.cells cs e)).cell? ⟨w.heap.size, j, none⟩ = (onc zs)[j]? := fun j => by
    rw [cell_of_row (w.alloc (.cells cs e)) w.heap.size j cs e (0, 0) (heap_alloc_new w _), ← hcs]
    simp
  rw [hc, hc, hc, Nat.zero_add]
  exact ⟨h0, h1, h2⟩
def onP (z : On) : List Pr × Sp := (labs z.n, ⟨t1000 z.t, z.v⟩)
theorem tableZ_P (zs : List On) : tableZ zs = addF [] (zs.map onP) := tableZ_addF zs
def zA : List On := [⟨0, 10, 1⟩, ⟨0, 20, 1⟩]
def zB : List On := [⟨0, 20, 1⟩, ⟨0, 30, 1⟩, ⟨3, 5, 1⟩]
theorem awake_Z : addF [] ([zA.map onP, zB.map onP]).flatten = [⟨labs 0, [⟨10, 1⟩, ⟨20, 1⟩, ⟨30, 1⟩]⟩, ⟨labs 3, [⟨5, 1⟩]⟩] := by decide
theorem TabC.form {w : World} {K : Nat} {v : Value} {rows : List Rw} (h : TabC w K v rows) : ∃ a c, v = .slice a rows.length c := by
  obtain ⟨⟨_, a, c, hv, _⟩, _⟩ := h
  exact ⟨a, c, hv⟩
theorem TabR.form {w : World} {K : Nat} {v : Value} {rows : List Rw} (h : TabR w K v rows) : ∃ a c, v = .slice a rows.length c := by
  obtain ⟨_, qs, _, h2, _⟩ := h
  exact h2.slice
theorem TabC.two {w : World} {K : Nat} {v : Value} {r0 r1 : Rw} (h : TabC w K v [r0, r1]) : ∃ g off c a0 c0 a1 c1, v = .slice (some ⟨g, off, none⟩) 2 c ∧ g < w.heap.size ∧ w.cell? ⟨g, off + 1, none⟩ = some (.slice a0 r0.ss.length c0) ∧ w.cell? ⟨g, off + 2 + 1, none⟩ = some (.slice a1 r1.ss.length c1) := by
  obtain ⟨⟨_, _⟩, qs, h1, h2, h3⟩ := h
  obtain ⟨q0, q1, rfl⟩ : ∃ q0 q1, qs = [q0, q1] := by
    match qs, h1 with
    | [q0, q1], _ => exact ⟨q0, q1, rfl⟩
    | [], h => simp at h
    | [q], h => simp at h
    | q :: q' :: q'' :: l, h => simp at h
  simp only [List.map_cons, List.map_nil, List.cons.injEq, and_true] at h1
  obtain ⟨rfl, rfl⟩ := h1
  obtain ⟨_, a, c, g, off, rfl, hg, hc⟩ := h2
  obtain ⟨rfl, hgl⟩ := hg (by simp)
  obtain ⟨a0, c0, e0⟩ := (h3 q0 (by simp)).1.s.slice
  obtain ⟨a1, c1, e1⟩ := (h3 q1 (by simp)).1.s.slice
  refine ⟨g, off, c, a0, c0, a1, c1, rfl, hgl, ?_, ?_⟩
  · rw [hc 1 (by simp), ← e0]; rfl
  · rw [Nat.add_assoc, hc 3 (by simp), ← e1]; rfl
theorem awake_cnt : cntZ [⟨labs 0, [⟨10, 1⟩, ⟨20, 1⟩, ⟨30, 1⟩]⟩, ⟨labs 3, [⟨5, 1⟩]⟩] = 4 := by decide

end Go.Proofs.YtfckgcckpfklaaaGreatDoor

namespace Go.Proofs.YtfckgcckpfklaaaGreatDoor
open Go.RowKit Go.Lib Go.Deep Go.ChangeShapes Go.WideShapes
set_option linter.unusedVariables false

theorem three14 {α : Type} (l : List α) (h : l.length = 3) : ∃ a b c, l = [a, b, c] := by
  match l, h with
  | [a, b, c], _ => exact ⟨a, b, c, rfl⟩
theorem ons_open {H : Type} {enc : TypeId × Value → H} {W : World} {base : Nat} {spare : Nat → Bool} {held : Bool} {fuel : Nat} {ao : Option Addr} {len cap : Nat} {x : DataW H × List MemPlace}
    (h : DataW.trod enc Tryz.prog W base spare held fuel 22 [.slice ao len cap] = some x) : ∃ zs, len ≤ maxLen ∧ OnR W ao len zs := by
  rcases open_slice Tryz.underlying22 h with ⟨hcs, _⟩ | ⟨a, len', cap', m, n, D, Pl, hcs, hb, hl, hm, hmm, _, hi⟩
  · simp only [List.cons.injEq, Value.slice.injEq, and_true] at hcs
    obtain ⟨rfl, rfl, rfl⟩ := hcs
    exact ⟨[], Nat.zero_le _, rfl, Nat.zero_le _, fun h => absurd h (Nat.lt_irrefl 0), fun z hz => by cases hz⟩
  · simp only [List.cons.injEq, Value.slice.injEq, and_true] at hcs
    obtain ⟨rfl, rfl, rfl⟩ := hcs
    have hlm : len ≤ m := by rw [hmm]; split <;> omega
    have ce : Tryz.prog.cellsOf 57 = 3 := by kernel_rfl
    have each : ∀ i, i < m → ∃ z : On, ((0 ≤ z.n ∧ z.n ≤ 255) ∧ -9223372036854775808 ≤ z.t ∧ z.t ≤ 9223372036854775807) ∧ W.cell? (a.add (i * 3)) = some (.int .u8 z.n) ∧ W.cell? ((a.add (i * 3)).add 1) = some (.int .i64 z.t) ∧ W.cell? ((a.add (i * 3)).add 2) = some (.int .u64 z.v) := by
      intro i him
      obtain ⟨cs', h1, h2⟩ := hi i him
      rw [ce] at h1
      obtain ⟨_, hlen, hcell⟩ := World.cells?_some h1
      obtain ⟨c0, c1, c2, rfl⟩ := three14 cs' hlen
      obtain ⟨xs, k, hk, hxy, _, hxl, hf⟩ := DataW.trod_struct Tryz.underlying57 h2
      obtain ⟨y0, y1, y2, rfl⟩ := three14 xs hxl
      have e0 := hcell 0 (by omega); have e1 := hcell 1 (by omega); have e2 := hcell 2 (by omega)
      have c8 : Tryz.prog.cellsOf 5 = 1 := by kernel_rfl
      have ci : Tryz.prog.cellsOf 2 = 1 := by kernel_rfl
      have cu : Tryz.prog.cellsOf 32 = 1 := by kernel_rfl
      have g0 := hf 0 _ rfl; have g1 := hf 1 _ rfl; have g2 := hf 2 _ rfl
      simp [c8, ci, cu] at g0 g1 g2
      obtain ⟨z0, q0, _, w0⟩ := DataW.trod_int Tryz.underlying5 g0
      obtain ⟨z1, q1, _, w1⟩ := DataW.trod_int Tryz.underlying2 g1
      obtain ⟨z2, q2, _, w2⟩ := DataW.trod_int Tryz.underlying32 g2
      simp only [List.cons.injEq, and_true] at q0 q1 q2
      have b0 := bd_u8 w0; have b1 := bd_i64 w1
      subst q0 q1 q2
      exact ⟨⟨z0, z1, z2⟩, ⟨⟨b0.1, Int.le_of_lt_add_one b0.2⟩, b1.1, b1.2⟩, by rw [add_add, Nat.add_zero] at e0; simpa using e0, by simpa using e1, by simpa using e2⟩
    obtain ⟨T, hT⟩ := choose_lt each
    refine ⟨(List.range (min len 40)).map T, Nat.le_trans hl hm, by simp, Nat.le_trans hl hm, fun h0 => ?_, fun t ht => ?_⟩
    · obtain ⟨b, off, spot⟩ := a
      have hspot : spot = none := by
        have := World.cell?_spot (hT 0 (by omega)).2.1
        simpa [Addr.add] using this
      subst hspot
      have hc0 := (hT 0 (by omega)).2.1
      refine ⟨b, off, rfl, ?_, fun i t hit => ?_⟩
      · have := World.block_lt_of_cell? W _ hc0
        rwa [add_plain] at this
      · have hlt : i < min len 40 := by
          have := (List.getElem?_eq_some_iff.1 hit).1
          simpa using this
        simp only [List.getElem?_map, List.getElem?_range hlt, Option.map_some, Option.some.injEq] at hit
        subst hit
        obtain ⟨_, d0, d1, d2⟩ := hT i (by omega)
        simp only [add_plain] at d0 d1 d2
        exact ⟨d0, d1, d2⟩
    · obtain ⟨i, hi2, rfl⟩ := List.mem_map.1 ht
      have := List.mem_range.1 hi2
      exact (hT i (by omega)).1
end Go.Proofs.YtfckgcckpfklaaaGreatDoor

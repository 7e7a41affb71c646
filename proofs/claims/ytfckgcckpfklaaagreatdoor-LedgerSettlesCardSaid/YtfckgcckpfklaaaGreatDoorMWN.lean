/- Layer 14: what is between two times, in plain words. Layer 14: tables that agree, in plain words. Layer 14: agree, walked. Layer 14: MergeOrder, walked. Layer 25: where a sample and a row stand in a table: plain maths. -/
import Derived.Test.YtfckgcckpfklaaaGreatDoorMWF
import Derived.Deep.RegionHeld3
import Derived.Test.YtfckgcckpfklaaaGreatDoorMWM
namespace Go.Proofs.YtfckgcckpfklaaaGreatDoor
open Go.RowKit Go.Lib Hp
set_option linter.unusedVariables false

def inB (f t : Int) (s : Sp) : Bool := decide (f ≤ s.t) && decide (s.t < t)
def betw (f t : Int) : List Rw → List Rw
  | [] => []
  | r :: l => if (r.ss.filter (inB f t)).length = 0 then betw f t l else ⟨r.ls, r.ss.filter (inB f t)⟩ :: betw f t l
theorem betw_snoc (f t : Int) (r : Rw) : ∀ l : List Rw, betw f t (l ++ [r]) = betw f t l ++ (if (r.ss.filter (inB f t)).length = 0 then [] else [⟨r.ls, r.ss.filter (inB f t)⟩])
  | [] => by simp only [List.nil_append, betw]
  | x :: l => by
    simp only [List.cons_append, betw]
    rw [betw_snoc f t r l]
    split <;> simp
theorem betw_len (f t : Int) : ∀ l : List Rw, (betw f t l).length ≤ l.length
  | [] => by simp [betw]
  | x :: l => by
    have := betw_len f t l
    unfold betw
    split
    · simp only [List.length_cons]; omega
    · simp only [List.length_cons]; omega
theorem betw_mem (f t : Int) {l : List Rw} {r : Rw} (h : r ∈ betw f t l) : r.ss ≠ [] ∧ ∃ x ∈ l, r.ls = x.ls ∧ r.ss = x.ss.filter (inB f t) := by
  induction l with
  | nil => simp [betw] at h
  | cons x l ih =>
    unfold betw at h
    split at h
    · obtain ⟨h1, y, hy, h2⟩ := ih h
      exact ⟨h1, y, by simp [hy], h2⟩
    · rename_i hn
      simp only [List.mem_cons] at h
      rcases h with rfl | h
      · exact ⟨fun e => hn (by rw [show x.ss.filter (inB f t) = [] from e]; rfl), x, by simp, rfl, rfl⟩
      · obtain ⟨h1, y, hy, h2⟩ := ih h
        exact ⟨h1, y, by simp [hy], h2⟩
theorem look_filter (f t a : Int) : ∀ l : List Sp, look (l.filter (inB f t)) a = if f ≤ a ∧ a < t then look l a else none
  | [] => by simp [look]
  | x :: l => by
    have ih := look_filter f t a l
    by_cases hx : inB f t x = true
    · rw [List.filter_cons_of_pos hx, look, ih, look]
      by_cases ha : x.t = a
      · have : f ≤ a ∧ a < t := by simpa [inB, ha] using hx
        simp [ha, this]
      · simp [ha]
    · rw [List.filter_cons_of_neg hx, ih, look]
      by_cases ha : x.t = a
      · have : ¬ (f ≤ a ∧ a < t) := by simpa [inB, ha] using hx
        rw [if_neg this, if_neg this]
      · simp [ha]
theorem betw_up (f t : Int) {l : List Rw} (h : UpT l) : UpT (betw f t l) := by
  refine ⟨?_, fun r hr => ?_⟩
  · induction l with
    | nil => exact List.Pairwise.nil
    | cons x l ih =>
      obtain ⟨h1, h2⟩ := List.pairwise_cons.1 h.1
      have ih' := ih ⟨h2, fun r hr => h.2 r (by simp [hr])⟩
      unfold betw
      split
      · exact ih'
      · refine List.pairwise_cons.2 ⟨fun y hy => ?_, ih'⟩
        obtain ⟨_, z, hz, e, _⟩ := betw_mem f t hy
        rw [e]
        exact h1 z hz
  · obtain ⟨_, x, hx, _, e⟩ := betw_mem f t hr
    rw [e]
    exact List.Pairwise.sublist List.filter_sublist (h.2 x hx)
theorem betw_look (f t : Int) (ls : List Pr) (a : Int) : ∀ l : List Rw, lookT (betw f t l) ls a = if f ≤ a ∧ a < t then lookT l ls a else none
  | [] => by simp [betw, lookT]
  | x :: l => by
    have ih := betw_look f t ls a l
    have hf := look_filter f t a x.ss
    unfold betw
    split
    · rename_i h0
      rw [List.eq_nil_of_length_eq_zero h0] at hf
      rw [ih, lookT]
      by_cases hr : f ≤ a ∧ a < t
      · rw [if_pos hr] at hf
        rw [if_pos hr, if_pos hr, ← hf]
        simp [look]
      · rw [if_neg hr, if_neg hr]
    · rw [lookT, ih, hf, lookT]
      by_cases hr : f ≤ a ∧ a < t
      · simp [hr]
      · simp [hr]
theorem lookP_filter (f t : Int) (ls : List Pr) (a : Int) : ∀ ps : Ps, lookP (ps.filter fun p => inB f t p.2) ls a = if f ≤ a ∧ a < t then lookP ps ls a else none
  | [] => by simp [lookP]
  | p :: ps => by
    have ih := lookP_filter f t ls a ps
    by_cases hx : inB f t p.2 = true
    · rw [List.filter_cons_of_pos (p := fun p : List Pr × Sp => inB f t p.2) hx, lookP, ih, lookP]
      by_cases ha : p.1 = ls ∧ p.2.t = a
      · have : f ≤ a ∧ a < t := by simpa [inB, ha.2] using hx
        simp [ha, this]
      · by_cases hr : f ≤ a ∧ a < t <;> simp [ha, hr]
    · rw [List.filter_cons_of_neg (p := fun p : List Pr × Sp => inB f t p.2) hx, ih, lookP]
      by_cases ha : p.1 = ls ∧ p.2.t = a
      · have : ¬ (f ≤ a ∧ a < t) := by simpa [inB, ha.2] using hx
        rw [if_neg this, if_neg this]
      · simp [ha]
theorem betw_P (f t : Int) (ps : Ps) : betw f t (addF [] ps) = addF [] (ps.filter fun p => inB f t p.2) := by
  obtain ⟨a1, a2, a3⟩ := addF_nil ps
  obtain ⟨b1, b2, b3⟩ := addF_nil (ps.filter fun p => inB f t p.2)
  refine upT_one (betw_up f t a1) b1 (fun r hr => (betw_mem f t hr).1) b2 fun ls a => ?_
  rw [betw_look, a3, b3, lookP_filter]
/-- Two parts together. -/
theorem betw_split {f m t : Int} (h1 : f ≤ m) (h2 : m ≤ t) (ps : Ps) : addF [] ([ps.filter fun p => inB f m p.2, ps.filter fun p => inB m t p.2]).flatten = addF [] (ps.filter fun p => inB f t p.2) := addF_one fun ls a => by
  rw [List.flatten_cons, List.flatten_cons, List.flatten_nil, List.append_nil, lookP_append, lookP_filter, lookP_filter, lookP_filter]
  by_cases c1 : f ≤ a
  · by_cases c2 : a < m
    · rw [if_pos ⟨c1, c2⟩, if_neg (by omega), if_pos ⟨c1, by omega⟩]; simp
    · by_cases c3 : a < t
      · rw [if_neg (by omega), if_pos ⟨by omega, c3⟩, if_pos ⟨c1, c3⟩]; simp
      · rw [if_neg (by omega), if_neg (by omega), if_neg (by omega)]; rfl
  · rw [if_neg (by omega), if_neg (by omega), if_neg (by omega)]; rfl
end Go.Proofs.YtfckgcckpfklaaaGreatDoor

namespace Go.Proofs.YtfckgcckpfklaaaGreatDoor
open Go.RowKit Go.Lib Hp
set_option linter.unusedVariables false

/-- A sample whose value hangs on its series and time alone. -/
def ag (z : On) : On := ⟨z.n, z.t, t1000 z.t * 5 + z.n.tmod 5⟩
def Val (ps : Ps) : Prop := ∀ p ∈ ps, ∃ n : Nat, n < 5 ∧ p.1 = lab5 n ∧ p.2.v = p.2.t * 5 + n
theorem lab5_inj {m n : Nat} (hm : m < 5) (hn : n < 5) (h : lab5 m = lab5 n) : m = n := by
  have hd : ∀ m, m < 5 → ∀ n, n < 5 → lab5 m = lab5 n → m = n := by decide
  exact hd m hm n hn h
theorem lookP_some {ps : Ps} {ls : List Pr} {a : Int} {s : Sp} (h : lookP ps ls a = some s) : ∃ p ∈ ps, p.1 = ls ∧ p.2.t = a ∧ p.2 = s := by
  induction ps with
  | nil => cases h
  | cons p ps ih =>
    rw [lookP] at h
    by_cases hp : p.1 = ls ∧ p.2.t = a
    · rw [if_pos hp] at h
      exact ⟨p, by simp, hp.1, hp.2, Option.some.inj h⟩
    · rw [if_neg hp] at h
      obtain ⟨q, hq, h2⟩ := ih h
      exact ⟨q, by simp [hq], h2⟩
theorem val_one {ps qs : Ps} (hp : Val ps) (hq : Val qs) {ls : List Pr} {a : Int} {s u : Sp} (h1 : lookP ps ls a = some s) (h2 : lookP qs ls a = some u) : s = u := by
  obtain ⟨p, hp1, e1, e2, rfl⟩ := lookP_some h1
  obtain ⟨q, hq1, f1, f2, rfl⟩ := lookP_some h2
  obtain ⟨m, hm, g1, g2⟩ := hp p hp1
  obtain ⟨n, hn, k1, k2⟩ := hq q hq1
  have hmn : m = n := lab5_inj hm hn (by rw [← g1, e1, ← f1, k1])
  obtain ⟨_, ⟨pt, pv⟩⟩ := p
  obtain ⟨_, ⟨qt, qv⟩⟩ := q
  simp only at e2 f2 g2 k2
  subst e2 hmn
  subst f2
  rw [g2, k2]
theorem val_comm {ps qs : Ps} (hp : Val ps) (hq : Val qs) (ls : List Pr) (a : Int) : (lookP ps ls a).or (lookP qs ls a) = (lookP qs ls a).or (lookP ps ls a) := by
  cases h1 : lookP ps ls a with
  | none => cases lookP qs ls a <;> rfl
  | some s =>
    cases h2 : lookP qs ls a with
    | none => rfl
    | some u => rw [val_one hp hq h1 h2]
theorem val_ag (zs : List On) (h : ∀ z ∈ zs, 0 ≤ z.n ∧ z.n ≤ 255) : Val ((zs.map ag).map onP) := by
  intro p hp
  obtain ⟨y, hy, rfl⟩ := List.mem_map.1 hp
  obtain ⟨z, hz, rfl⟩ := List.mem_map.1 hy
  obtain ⟨h0, h1⟩ := h z hz
  have ht : 0 ≤ z.n.tmod 5 ∧ z.n.tmod 5 < 5 := ⟨Int.tmod_nonneg _ h0, Int.tmod_lt_of_pos _ (by decide)⟩
  refine ⟨(z.n.tmod 5).toNat, by omega, rfl, ?_⟩
  show t1000 z.t * 5 + z.n.tmod 5 = t1000 z.t * 5 + ((z.n.tmod 5).toNat : Nat)
  omega
theorem order_turn {A B C : Ps} (ha : Val A) (hb : Val B) (hc : Val C) : addF [] ([C, A, B]).flatten = addF [] ([A, B, C]).flatten := addF_one fun ls a => by
  simp only [List.flatten_cons, List.flatten_nil, List.append_nil]
  rw [lookP_append, lookP_append, lookP_append, lookP_append]
  have hab : Val (A ++ B) := fun p hp => by
    rcases List.mem_append.1 hp with hp | hp
    · exact ha p hp
    · exact hb p hp
  have := val_comm hc hab ls a
  rw [lookP_append] at this
  rw [this, Option.or_assoc]
theorem order_left (A B C : Ps) : ([([A, B]).flatten, C]).flatten = ([A, B, C]).flatten := by simp
theorem order_right (A B C : Ps) : ([A, ([B, C]).flatten]).flatten = ([A, B, C]).flatten := by simp
end Go.Proofs.YtfckgcckpfklaaaGreatDoor

namespace Go.Proofs.YtfckgcckpfklaaaGreatDoor
open Go.RowKit Go.Lib Hp
set_option linter.unusedVariables false

theorem zc_one : (Tryz.prog.info? 57).map (fun i => (i.zero, i.size, i.bytes)) = some (some (.agg #[.int .u8 0, .int .i64 0, .int .u64 0]), 3, 24) := by kernel_rfl
/-- A slice that came in, within its capacity. -/
def OnC (w : World) (a : Option Addr) (len cap : Nat) (zs : List On) : Prop := OnR w a len zs ∧ len ≤ cap ∧ cap ≤ maxLen ∧ (a = none → len = 0 ∧ cap = 0)
theorem onc_append (l m : List On) : onc (l ++ m) = onc l ++ onc m := by simp [onc]
theorem onc_len (l : List On) : (onc l).length = l.length * 3 := by
  induction l with
  | nil => rfl
  | cons s l ih =>
    show ([Value.int .u8 s.n, .int .i64 s.t, .int .u64 s.v] ++ onc l).length = _
    rw [List.length_append, ih]
    simp only [List.length_cons, List.length_nil]
    omega
theorem onc_one (l : List On) : ∀ v ∈ onc l, v.oneCell' = true := by
  intro v hv
  simp only [onc, List.mem_flatMap, List.mem_cons, List.not_mem_nil, or_false] at hv
  obtain ⟨s, _, rfl | rfl | rfl⟩ := hv <;> rfl
theorem onc_setV : ∀ (l : List On) (k : Nat) (z : On) (u : Int), l[k]? = some z → (onc l).set (k * 3 + 2) (.int .u64 u) = onc (l.set k ⟨z.n, z.t, u⟩)
  | [], k, z, u, h => by simp at h
  | y :: l, 0, z, u, h => by
    simp only [List.getElem?_cons_zero, Option.some.injEq] at h
    subst h
    rfl
  | y :: l, k + 1, z, u, h => by
    have ih := onc_setV l k z u (by simpa using h)
    rw [show (k + 1) * 3 + 2 = k * 3 + 2 + 1 + 1 + 1 by omega]
    show ([Value.int .u8 y.n, .int .i64 y.t, .int .u64 y.v] ++ onc l).set (k * 3 + 2 + 1 + 1 + 1) _ = _
    simp only [List.cons_append, List.nil_append, List.set_cons_succ, List.set]
    rw [ih]
    rfl
/-- A slice's first samples, only read. -/
theorem OnR.rd {w : World} {a : Option Addr} {len n cap : Nat} {zs : List On} (h : OnR w a len zs) (hn : n ≤ len) (hn40 : n ≤ 40) : Rd w 3 (.slice a n cap) n (onc (zs.take n)) := by
  have hl : (zs.take n).length = n := by rw [List.length_take, h.hl]; omega
  rcases Nat.eq_zero_or_pos n with rfl | hp
  · exact ⟨by simp [onc], a, cap, 0, 0, rfl, fun h => absurd h (Nat.lt_irrefl 0), fun j hj => absurd hj (by omega)⟩
  · obtain ⟨g, off, he, hg, hc⟩ := h.at_ (by omega)
    refine ⟨by rw [onc_len, hl], a, cap, g, off, rfl, fun _ => ⟨he, hg⟩, fun j hj => ?_⟩
    have hi : j / 3 < n := by omega
    obtain ⟨z, hz⟩ : ∃ z, zs[j / 3]? = some z := ⟨zs[j / 3]'(by have := h.hl; omega), List.getElem?_eq_getElem (by have := h.hl; omega)⟩
    have hz2 : (zs.take n)[j / 3]? = some z := by rw [List.getElem?_take, if_pos hi]; exact hz
    obtain ⟨c0, c1, c2⟩ := hc (j / 3) z hz
    obtain ⟨d0, d1, d2⟩ := onc_at (zs.take n) (j / 3) z hz2
    rcases (show j = j / 3 * 3 ∨ j = j / 3 * 3 + 1 ∨ j = j / 3 * 3 + 2 by omega) with e | e | e
    · rw [e, d0]; exact c0
    · rw [e, d1, ← Nat.add_assoc]; exact c1
    · rw [e, d2, ← Nat.add_assoc]; exact c2

theorem OnR.of_sl {w : World} {B : Nat} {a : Option Addr} {m c : Nat} {l : List On} (h : Sl w B 3 (.slice a m c) m (onc l)) (hm : m ≤ 40) (hr : ∀ z ∈ l, (0 ≤ z.n ∧ z.n ≤ 255) ∧ -9223372036854775808 ≤ z.t ∧ z.t ≤ 9223372036854775807) : OnR w a m l := by
  have hl : l.length = m := by have := h.1; rw [onc_len] at this; omega
  refine ⟨by omega, by unfold maxLen; omega, fun h0 => ?_, hr⟩
  rcases h.2 with ⟨e, e0⟩ | ⟨g, off, cap, e, _, hg, _, _, _, hcell⟩
  · omega
  · cases e
    refine ⟨g, off, rfl, hg, fun i z hz => ?_⟩
    have hi : i < m := by have := (List.getElem?_eq_some_iff.1 hz).1; omega
    obtain ⟨d0, d1, d2⟩ := onc_at l i z hz
    exact ⟨(hcell (i * 3) (by omega)).trans d0, by rw [Nat.add_assoc]; exact (hcell (i * 3 + 1) (by omega)).trans d1, by rw [Nat.add_assoc]; exact (hcell (i * 3 + 2) (by omega)).trans d2⟩
/-- What agree answers. -/
def AgR (w : World) (zs : List On) (e : Ending) (w' : World) : Prop := ∃ a' m c', e = .returned (.slice a' m c') ∧ OnR w' a' m ((zs.take 30).map ag) ∧ Below w.heap.size w w'
end Go.Proofs.YtfckgcckpfklaaaGreatDoor

namespace Go.Proofs.YtfckgcckpfklaaaGreatDoor
open Go.RowKit Go.Lib Hp
set_option linter.unusedVariables false

theorem OnC.on {w w' : World} {a : Option Addr} {len cap : Nat} {zs : List On} (h : OnC w a len cap zs) (b : Below w.heap.size w w') : OnC w' a len cap zs := ⟨h.1.on b, h.2⟩
/-- Three tables, as they lie. -/
structure T3s (w : World) (x y z : Value) (RX RY RZ : List Rw) : Prop where
  x : TabC w 40 x RX
  y : TabC w 40 y RY
  z : TabC w 40 z RZ
theorem T3s.on {w w' : World} {x y z : Value} {RX RY RZ : List Rw} (h : T3s w x y z RX RY RZ) (b : Below w.heap.size w w') : T3s w' x y z RX RY RZ := ⟨h.x.on b, h.y.on b, h.z.on b⟩
theorem tabP_2 {W : World} {us : List Value} {u v : Value} {A B : Ps} (hu : TabC W 1000 u (addF [] A)) (hv : TabC W 1000 v (addF [] B)) (p : Nat) (x : Value) (ps : Ps) (h1 : [u, v][p]? = some x) (h2 : [A, B][p]? = some ps) : TabC W 1000 x (addF [] ps) := by
  match p, h1, h2 with
  | 0, h1, h2 =>
    obtain rfl := Option.some.inj h1
    obtain rfl := Option.some.inj h2
    exact hu
  | 1, h1, h2 =>
    obtain rfl := Option.some.inj h1
    obtain rfl := Option.some.inj h2
    exact hv
  | p + 2, h1, _ => simp at h1
theorem tabP_3 {W : World} {u v x : Value} {A B C : Ps} (hu : TabC W 1000 u (addF [] A)) (hv : TabC W 1000 v (addF [] B)) (hx : TabC W 1000 x (addF [] C)) (p : Nat) (y : Value) (ps : Ps) (h1 : [u, v, x][p]? = some y) (h2 : [A, B, C][p]? = some ps) : TabC W 1000 y (addF [] ps) := by
  match p, h1, h2 with
  | 0, h1, h2 =>
    obtain rfl := Option.some.inj h1
    obtain rfl := Option.some.inj h2
    exact hu
  | 1, h1, h2 =>
    obtain rfl := Option.some.inj h1
    obtain rfl := Option.some.inj h2
    exact hv
  | 2, h1, h2 =>
    obtain rfl := Option.some.inj h1
    obtain rfl := Option.some.inj h2
    exact hx
  | p + 3, h1, _ => simp at h1
/-- Tables of a literal. -/
theorem tables_lit (W : World) (us : List Value) (PS : List Ps) (R : List Rw) (hl : us.length = PS.length) (hk : PS.length ≤ 100) (hn : PS.flatten.length ≤ 1000) (hu : ∀ (p : Nat) (u : Value) (ps : Ps), us[p]? = some u → PS[p]? = some ps → TabC W 1000 u (addF [] ps)) (hf : addF [] PS.flatten = R) :
    Calls Tryz.prog 11 #[.slice (some ⟨W.heap.size, 0, none⟩) us.length us.length] (W.alloc (.cells us.toArray 24)) fun e w' => ∃ v', e = .returned v' ∧ TabC w' 1000 v' R ∧ Below W.heap.size W w' := by
  have b : Below W.heap.size W (W.alloc (.cells us.toArray 24)) := (Below.refl _ _).alloc (Nat.le_refl _) _
  refine (tables_P _ PS _ (TsR.lit W us PS 24 hl hu) hk hn).mono ?_
  rintro e w' ⟨v', rfl, h1, h2⟩
  rw [hf] at h1
  exact ⟨v', rfl, h1, b.trans (h2.mono b.size)⟩

end Go.Proofs.YtfckgcckpfklaaaGreatDoor

namespace Go.Proofs.YtfckgcckpfklaaaGreatDoor
open Go.RowKit Go.Lib Hp
set_option linter.unusedVariables false

/-- How many stand ahead. -/
def posP {α : Type} (p : α → Bool) : List α → Nat
  | [] => 0
  | a :: l => if p a = true then posP p l + 1 else 0
theorem posP_le {α : Type} (p : α → Bool) : ∀ l : List α, posP p l ≤ l.length
  | [] => Nat.le_refl _
  | a :: l => by
    have := posP_le p l
    unfold posP
    split <;> simp only [List.length_cons] <;> omega
theorem posP_iff {α : Type} (p : α → Bool) : ∀ l : List α, (l.Pairwise fun x y => p y = true → p x = true) → ∀ j x, l[j]? = some x → (p x = true ↔ j < posP p l)
  | [], _, j, x, h => by simp at h
  | a :: l, hu, j, x, h => by
    obtain ⟨h1, h2⟩ := List.pairwise_cons.1 hu
    unfold posP
    cases j with
    | zero =>
      simp only [List.getElem?_cons_zero, Option.some.injEq] at h
      subst h
      by_cases ha : p a = true
      · simp [ha]
      · simp [ha]
    | succ j =>
      have hj : l[j]? = some x := by simpa using h
      have ih := posP_iff p l h2 j x hj
      by_cases ha : p a = true
      · rw [if_pos ha, ih]; omega
      · rw [if_neg ha]
        exact ⟨fun hx => absurd (h1 x (List.mem_of_getElem? hj) hx) ha, fun h => absurd h (Nat.not_lt_zero _)⟩

def posS (l : List Sp) (t : Int) : Nat := posP (fun s => decide (s.t < t)) l
def posT (l : List Rw) (ls : List Pr) : Nat := posP (fun r => decide (cmpS r.ls ls < 0)) l
theorem posS_le (l : List Sp) (t : Int) : posS l t ≤ l.length := posP_le _ _
theorem posT_le (l : List Rw) (ls : List Pr) : posT l ls ≤ l.length := posP_le _ _
theorem posS_iff {l : List Sp} {t : Int} (h : Up l) {j : Nat} {x : Sp} (hx : l[j]? = some x) : x.t < t ↔ j < posS l t := by
  have := posP_iff (fun s : Sp => decide (s.t < t)) l (h.imp fun h1 h2 => by simp only [decide_eq_true_eq] at h2 ⊢; omega) j x hx
  simpa [posS] using this
theorem posT_iff {l : List Rw} {ls : List Pr} (h : UpT l) {j : Nat} {x : Rw} (hx : l[j]? = some x) : cmpS x.ls ls < 0 ↔ j < posT l ls := by
  have := posP_iff (fun r : Rw => decide (cmpS r.ls ls < 0)) l (h.1.imp fun h1 h2 => by simp only [decide_eq_true_eq] at h2 ⊢; exact cmp_tr2 (Int.le_of_lt h1) h2) j x hx
  simpa [posT] using this
/-- Is it there: what stands at its place says. -/
theorem posS_look {l : List Sp} {t : Int} (h : Up l) : look l t = (l[posS l t]?).bind fun x => if x.t = t then some x else none := by
  induction l with
  | nil => rfl
  | cons x l ih =>
    obtain ⟨h1, h2⟩ := List.pairwise_cons.1 h
    unfold posS posP look
    by_cases c : x.t < t
    · rw [if_neg (by omega), if_pos (by simpa using c), List.getElem?_cons_succ]
      exact ih h2
    · rw [if_neg (show ¬ (decide (x.t < t) = true) by simpa using c)]
      simp only [List.getElem?_cons_zero, Option.bind_some]
      split
      · rfl
      · exact look_none fun y hy => by have := h1 y hy; omega
/-- A table's row of labels. -/
def rowT : List Rw → List Pr → Option Rw
  | [], _ => none
  | r :: l, ls => if r.ls = ls then some r else rowT l ls
theorem rowT_none {l : List Rw} {ls : List Pr} (h : ∀ r ∈ l, r.ls ≠ ls) : rowT l ls = none := by
  induction l with
  | nil => rfl
  | cons r l ih => rw [rowT, if_neg (h r (by simp)), ih (fun y hy => h y (by simp [hy]))]
theorem rowT_some {l : List Rw} {ls : List Pr} {r : Rw} (h : rowT l ls = some r) : r ∈ l ∧ r.ls = ls := by
  induction l with
  | nil => cases h
  | cons x l ih =>
    unfold rowT at h
    split at h
    · rename_i hx
      cases h
      exact ⟨by simp, hx⟩
    · obtain ⟨h1, h2⟩ := ih h
      exact ⟨by simp [h1], h2⟩
theorem posT_row {l : List Rw} {ls : List Pr} (h : UpT l) : rowT l ls = (l[posT l ls]?).bind fun x => if cmpS x.ls ls = 0 then some x else none := by
  induction l with
  | nil => rfl
  | cons x l ih =>
    obtain ⟨h1, h2⟩ := List.pairwise_cons.1 h.1
    have hul : UpT l := ⟨h2, fun r hr => h.2 r (by simp [hr])⟩
    unfold posT posP rowT
    by_cases c : cmpS x.ls ls < 0
    · rw [if_neg (cmp_ne (by omega)), if_pos (by simpa using c), List.getElem?_cons_succ]
      exact ih hul
    · rw [if_neg (show ¬ (decide (cmpS x.ls ls < 0) = true) by simpa using c)]
      simp only [List.getElem?_cons_zero, Option.bind_some]
      by_cases e : cmpS x.ls ls = 0
      · rw [if_pos e, if_pos (cmpS_zero _ _ e)]
      · rw [if_neg e, if_neg (cmp_ne e)]
        refine rowT_none fun y hy => cmp_ne ?_
        have h3 := h1 y hy
        intro h0
        have := cmp_tr2 (a := x.ls) (b := y.ls) (c := ls)
        have h5 : cmpS x.ls ls < 0 := by
          obtain e2 := cmpS_zero _ _ h0
          rw [← e2]; exact h3
        exact c h5
theorem lookT_row {l : List Rw} {ls : List Pr} (h : UpT l) (a : Int) : lookT l ls a = (rowT l ls).bind fun r => look r.ss a := by
  induction l with
  | nil => rfl
  | cons x l ih =>
    obtain ⟨h1, h2⟩ := List.pairwise_cons.1 h.1
    have hul : UpT l := ⟨h2, fun r hr => h.2 r (by simp [hr])⟩
    unfold lookT rowT
    by_cases e : x.ls = ls
    · subst e
      rw [if_pos rfl, if_pos rfl, lookT_none2 h1 a]
      simp
    · rw [if_neg e, if_neg e, ih hul]
      rfl

theorem insS_in {l : List Sp} {s y : Sp} (hu : Up l) (h : look l s.t = some y) : insS l s = l := by
  induction l with
  | nil => cases h
  | cons x l ih =>
    obtain ⟨h1, h2⟩ := List.pairwise_cons.1 hu
    unfold insS
    unfold look at h
    by_cases e : x.t = s.t
    · rw [if_pos e]
    · rw [if_neg e] at h
      rw [if_neg e, if_neg (fun hlt => by
        rw [look_none fun z hz => by have := h1 z hz; omega] at h
        cases h), ih h2 h]
theorem insS_out {l : List Sp} {s : Sp} (hu : Up l) (h : look l s.t = none) : insS l s = l.take (posS l s.t) ++ s :: l.drop (posS l s.t) := by
  induction l with
  | nil => rfl
  | cons x l ih =>
    obtain ⟨h1, h2⟩ := List.pairwise_cons.1 hu
    unfold insS posS posP
    unfold look at h
    by_cases e : x.t = s.t
    · rw [if_pos e] at h; cases h
    · rw [if_neg e] at h
      rw [if_neg e]
      by_cases c : s.t < x.t
      · rw [if_pos c, if_neg (by simp; omega)]
        rfl
      · rw [if_neg c, if_pos (by simp; omega), ih h2 h]
        rfl
theorem insT_in {l : List Rw} {ls : List Pr} {s : Sp} {r : Rw} (hu : UpT l) (h : rowT l ls = some r) : insT l ls s = l.set (posT l ls) ⟨ls, putS r.ss s⟩ := by
  induction l with
  | nil => cases h
  | cons x l ih =>
    obtain ⟨h1, h2⟩ := List.pairwise_cons.1 hu.1
    have hul : UpT l := ⟨h2, fun r hr => hu.2 r (by simp [hr])⟩
    unfold insT posT posP
    unfold rowT at h
    by_cases e : x.ls = ls
    · subst e
      rw [if_pos rfl] at h
      cases h
      rw [if_pos (cmpS_self _), if_neg (by simp [cmpS_self])]
      rfl
    · rw [if_neg e] at h
      have n0 : cmpS ls x.ls ≠ 0 := fun h0 => e (cmpS_zero _ _ h0).symm
      have n1 : ¬ cmpS ls x.ls < 0 := fun hlt => by
        obtain ⟨m1, m2⟩ := rowT_some h
        have := h1 r m1
        rw [m2] at this
        have := cmpS_neg ls x.ls
        omega
      have n2 : cmpS x.ls ls < 0 := by have := cmpS_neg ls x.ls; omega
      rw [if_neg n0, if_neg n1, if_pos (by simpa using n2), ih hul h]
      rfl
theorem insT_out {l : List Rw} {ls : List Pr} {s : Sp} (hu : UpT l) (h : rowT l ls = none) : insT l ls s = l.take (posT l ls) ++ ⟨ls, [s]⟩ :: l.drop (posT l ls) := by
  induction l with
  | nil => rfl
  | cons x l ih =>
    obtain ⟨h1, h2⟩ := List.pairwise_cons.1 hu.1
    have hul : UpT l := ⟨h2, fun r hr => hu.2 r (by simp [hr])⟩
    unfold insT posT posP
    unfold rowT at h
    by_cases e : x.ls = ls
    · rw [if_pos e] at h; cases h
    · rw [if_neg e] at h
      have n0 : cmpS ls x.ls ≠ 0 := fun h0 => e (cmpS_zero _ _ h0).symm
      rw [if_neg n0]
      by_cases c : cmpS ls x.ls < 0
      · have n2 : ¬ cmpS x.ls ls < 0 := by have := cmpS_neg ls x.ls; omega
        rw [if_pos c, if_neg (by simpa using n2)]
        rfl
      · have n2 : cmpS x.ls ls < 0 := by have := cmpS_neg ls x.ls; omega
        rw [if_neg c, if_pos (by simpa using n2), ih hul h]
        rfl
end Go.Proofs.YtfckgcckpfklaaaGreatDoor

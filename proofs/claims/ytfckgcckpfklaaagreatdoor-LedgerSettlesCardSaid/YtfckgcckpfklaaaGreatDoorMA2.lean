/- Layer 14: rows in tables: their cells; what an append leaves. -/
import Derived.Test.YtfckgcckpfklaaaGreatDoorMA1
import Derived.Test.YtfckgcckpfklaaaGreatDoorMLE
namespace Go.Proofs.YtfckgcckpfklaaaGreatDoor
open Go.RowKit Go.Lib

/-- A series; and as it lies: its labels' slice, its samples' slice. -/
structure Rw where
  ls : List Pr
  ss : List Sp
deriving DecidableEq, Inhabited
structure Rq where
  a : Value
  b : Value
  r : Rw
def rqc (qs : List Rq) : List Value := qs.flatMap fun q => [q.a, q.b]
theorem rqc_append (l m : List Rq) : rqc (l ++ m) = rqc l ++ rqc m := by simp [rqc]
theorem rqc_len (l : List Rq) : (rqc l).length = l.length * 2 := by
  induction l with
  | nil => rfl
  | cons s l ih =>
    show ([s.a, s.b] ++ rqc l).length = _
    rw [List.length_append, ih]
    simp only [List.length_cons, List.length_nil]
    omega
theorem rqc_at : ∀ (l : List Rq) (i : Nat) (q : Rq), l[i]? = some q → (rqc l)[i * 2]? = some q.a ∧ (rqc l)[i * 2 + 1]? = some q.b
  | [], i, s, h => by simp at h
  | x :: l, 0, s, h => by
    simp only [List.getElem?_cons_zero, Option.some.injEq] at h
    subst h
    exact ⟨rfl, rfl⟩
  | x :: l, i + 1, s, h => by
    have ih := rqc_at l i s (by simpa using h)
    refine ⟨?_, ?_⟩
    · rw [show (i + 1) * 2 = i * 2 + 1 + 1 by omega]; exact ih.1
    · rw [show (i + 1) * 2 + 1 = i * 2 + 1 + 1 + 1 by omega]; exact ih.2
/-- A row reads so. -/
structure RowOk (w : World) (K : Nat) (q : Rq) : Prop where
  l : Rd w 2 q.a q.r.ls.length (prc q.r.ls)
  s : Rd w 2 q.b q.r.ss.length (spc q.r.ss)
  hl : q.r.ls.length ≤ 1000
  hs : q.r.ss.length ≤ K
theorem RowOk.on {w w' : World} {K : Nat} {q : Rq} (h : RowOk w K q) (b : Below w.heap.size w w') : RowOk w' K q := ⟨h.l.on b, h.s.on b, h.hl, h.hs⟩
/-- A table reads so. -/
def TabR (w : World) (K : Nat) (v : Value) (rows : List Rw) : Prop :=
  rows.length ≤ 100000 ∧ ∃ qs : List Rq, qs.map Rq.r = rows ∧ Rd w 2 v rows.length (rqc qs) ∧ ∀ q ∈ qs, RowOk w K q
theorem TabR.on {w w' : World} {K : Nat} {v : Value} {rows : List Rw} (h : TabR w K v rows) (b : Below w.heap.size w w') : TabR w' K v rows := by
  obtain ⟨h0, qs, h1, h2, h3⟩ := h
  exact ⟨h0, qs, h1, h2.on b, fun q hq => (h3 q hq).on b⟩

theorem Rd.slice {w : World} {size n : Nat} {v : Value} {xs : List Value} (h : Rd w size v n xs) : ∃ a cap, v = .slice a n cap := by
  obtain ⟨_, a, cap, g, off, hv, _⟩ := h
  exact ⟨a, cap, hv⟩
/-- Not in v's own memory. -/
def Off (x : Value) (n : Nat) (v : Value) : Prop := 0 < n → ∀ k, x.ownBlock = some k → v.ownBlock ≠ some k
theorem Rd.own {w : World} {size n : Nat} {v : Value} {xs : List Value} (h : Rd w size v n xs) (hn : 0 < n) : ∃ g, v.ownBlock = some g ∧ g < w.heap.size := by
  obtain ⟨_, a, cap, g, off, rfl, hg, _⟩ := h
  obtain ⟨rfl, hlt⟩ := hg hn
  exact ⟨g, rfl, hlt⟩
/-- Slices only read, behind an append to another one. -/
theorem Rd.grown {w w' : World} {row : Option Nat} {size n : Nat} {v : Value} {xs : List Value} (h : Rd w size v n xs) (hg : w.grownBy w' row) (hne : 0 < n → v.ownBlock ≠ row) : Rd w' size v n xs := by
  obtain ⟨hl, a, cap, g, off, rfl, h1, h2⟩ := h
  refine ⟨hl, a, cap, g, off, rfl, fun hn => ⟨(h1 hn).1, Nat.lt_of_lt_of_le (h1 hn).2 hg.size⟩, fun j hj => ?_⟩
  by_cases hn : 0 < n
  · obtain ⟨rfl, hlt⟩ := h1 hn
    rw [← h2 j hj]
    exact World.cell?_of_block (w := w) (w' := w') (hg.block g hlt (hne hn))
  · have : n = 0 := by omega
    subst this
    rw [Nat.zero_mul] at hj
    exact absurd hj (Nat.not_lt_zero _)

/-- A table that is being made. -/
structure TabN (w : World) (base K : Nat) (v : Value) (qs : List Rq) : Prop where
  sl : Sl w base 2 v qs.length (rqc qs)
  ok : ∀ q ∈ qs, RowOk w K q ∧ Off q.a q.r.ls.length v ∧ Off q.b q.r.ss.length v
theorem TabN.on {w w' : World} {base K : Nat} {v : Value} {qs : List Rq} (h : TabN w base K v qs) (b : Below w.heap.size w w') : TabN w' base K v qs :=
  ⟨h.sl.on b, fun q hq => ⟨(h.ok q hq).1.on b, (h.ok q hq).2⟩⟩
theorem Ext.off {base size n0 n m : Nat} {w w' : World} {v0 v x : Value} {xs0 xs ys : List Value} (h : Ext base size w v0 n0 xs0 w' v n xs) (hr : Rd w size x m ys) (ho : Off x m v0) : Off x m v := by
  intro hm k hk
  obtain ⟨g, hg, hlt⟩ := hr.own hm
  have hkg : k = g := Option.some.inj (hk.symm.trans hg)
  rcases h.alias with ⟨a, cap, e0, e1, _⟩ | hnew
  · have := ho hm k hk
    rw [e0] at this
    rw [e1, ownBlock_slice a n n0 cap cap]
    exact this
  · intro e
    have := hnew k e
    omega
theorem TabN.push {w w' : World} {base K : Nat} {v v' : Value} {qs : List Rq} {q : Rq} (h : TabN w base K v qs) (hx : Ext base 2 w v qs.length (rqc qs) w' v' (qs.length + 1) (rqc qs ++ [q.a, q.b])) (hq : RowOk w K q) (ha : Off q.a q.r.ls.length v) (hb : Off q.b q.r.ss.length v) : TabN w' base K v' (qs ++ [q]) := by
  refine ⟨?_, fun p hp => ?_⟩
  · rw [List.length_append, rqc_append]
    exact hx.now
  · have key : RowOk w K p ∧ Off p.a p.r.ls.length v ∧ Off p.b p.r.ss.length v := by
      rcases List.mem_append.1 hp with hp | hp
      · exact h.ok p hp
      · rw [List.mem_singleton] at hp
        subst hp
        exact ⟨hq, ha, hb⟩
    obtain ⟨k1, k2, k3⟩ := key
    refine ⟨⟨k1.l.grown hx.grown (fun hn e => ?_), k1.s.grown hx.grown (fun hn e => ?_), k1.hl, k1.hs⟩, hx.off k1.l k2, hx.off k1.s k3⟩
    · obtain ⟨g, hg, _⟩ := k1.l.own hn
      exact k2 hn g hg (e.symm.trans hg)
    · obtain ⟨g, hg, _⟩ := k1.s.own hn
      exact k3 hn g hg (e.symm.trans hg)
theorem TabN.read {w : World} {base K : Nat} {v : Value} {qs : List Rq} (h : TabN w base K v qs) (hl : qs.length ≤ 100000) : TabR w K v (qs.map Rq.r) :=
  ⟨by rw [List.length_map]; exact hl, qs, rfl, by rw [List.length_map]; exact Rd.of_sl h.sl, fun q hq => (h.ok q hq).1⟩

/-- A slice within its capacity. -/
def Capd (v : Value) (n : Nat) : Prop := ∃ a c, v = .slice a n c ∧ n ≤ c
theorem Sl.capd {w : World} {base size n : Nat} {v : Value} {xs : List Value} (h : Sl w base size v n xs) : Capd v n := by
  rcases h.2 with ⟨rfl, rfl⟩ | ⟨g, off, cap, rfl, _, _, h3, _⟩
  · exact ⟨none, 0, rfl, Nat.le_refl _⟩
  · exact ⟨_, cap, rfl, h3⟩
/-- A table that reads so, each slice within its capacity. -/
def TabC (w : World) (K : Nat) (v : Value) (rows : List Rw) : Prop :=
  (rows.length ≤ 100000 ∧ Capd v rows.length) ∧ ∃ qs : List Rq, qs.map Rq.r = rows ∧ Rd w 2 v rows.length (rqc qs) ∧ ∀ q ∈ qs, RowOk w K q ∧ Capd q.b q.r.ss.length
theorem TabC.r {w : World} {K : Nat} {v : Value} {rows : List Rw} (h : TabC w K v rows) : TabR w K v rows := by
  obtain ⟨⟨h0, _⟩, qs, h1, h2, h3⟩ := h
  exact ⟨h0, qs, h1, h2, fun q hq => (h3 q hq).1⟩
theorem TabC.on {w w' : World} {K : Nat} {v : Value} {rows : List Rw} (h : TabC w K v rows) (b : Below w.heap.size w w') : TabC w' K v rows := by
  obtain ⟨h0, qs, h1, h2, h3⟩ := h
  exact ⟨h0, qs, h1, h2.on b, fun q hq => ⟨(h3 q hq).1.on b, (h3 q hq).2⟩⟩
theorem TabN.readC {w : World} {base K : Nat} {v : Value} {qs : List Rq} (h : TabN w base K v qs) (hl : qs.length ≤ 100000) (hc : ∀ q ∈ qs, Capd q.b q.r.ss.length) : TabC w K v (qs.map Rq.r) :=
  ⟨⟨by rw [List.length_map]; exact hl, by rw [List.length_map]; exact h.sl.capd⟩, qs, rfl, by rw [List.length_map]; exact Rd.of_sl h.sl, fun q hq => ⟨(h.ok q hq).1, hc q hq⟩⟩

/-- A table all of whose memory is new. -/
def TabF (w : World) (B K : Nat) (v : Value) (rows : List Rw) : Prop :=
  (rows.length ≤ 100000 ∧ Capd v rows.length ∧ ∀ k, v.ownBlock = some k → B ≤ k) ∧ ∃ qs : List Rq, qs.map Rq.r = rows ∧ Rd w 2 v rows.length (rqc qs) ∧ ∀ q ∈ qs, RowOk w K q ∧ Capd q.b q.r.ss.length ∧ (∀ k, q.a.ownBlock = some k → B ≤ k) ∧ ∀ k, q.b.ownBlock = some k → B ≤ k
theorem TabF.c {w : World} {B K : Nat} {v : Value} {rows : List Rw} (h : TabF w B K v rows) : TabC w K v rows := by
  obtain ⟨⟨h0, h00, _⟩, qs, h1, h2, h3⟩ := h
  exact ⟨⟨h0, h00⟩, qs, h1, h2, fun q hq => ⟨(h3 q hq).1, (h3 q hq).2.1⟩⟩
theorem TabF.mono {w : World} {B B' K K' : Nat} {v : Value} {rows : List Rw} (h : TabF w B K v rows) (hb : B' ≤ B) (hk : K ≤ K') : TabF w B' K' v rows := by
  obtain ⟨⟨h0, h00, h01⟩, qs, h1, h2, h3⟩ := h
  exact ⟨⟨h0, h00, fun k hk => Nat.le_trans hb (h01 k hk)⟩, qs, h1, h2, fun q hq => ⟨⟨(h3 q hq).1.l, (h3 q hq).1.s, (h3 q hq).1.hl, Nat.le_trans (h3 q hq).1.hs hk⟩, (h3 q hq).2.1, fun k hk => Nat.le_trans hb ((h3 q hq).2.2.1 k hk), fun k hk => Nat.le_trans hb ((h3 q hq).2.2.2 k hk)⟩⟩
theorem TabN.readF {w : World} {base K : Nat} {v : Value} {qs : List Rq} (h : TabN w base K v qs) (hl : qs.length ≤ 100000) (hc : ∀ q ∈ qs, Capd q.b q.r.ss.length ∧ (∀ k, q.a.ownBlock = some k → base ≤ k) ∧ ∀ k, q.b.ownBlock = some k → base ≤ k) : TabF w base K v (qs.map Rq.r) :=
  ⟨⟨by rw [List.length_map]; exact hl, by rw [List.length_map]; exact h.sl.capd, fun k hk => (h.sl.lt k hk).1⟩, qs, rfl, by rw [List.length_map]; exact Rd.of_sl h.sl, fun q hq => ⟨(h.ok q hq).1, hc q hq⟩⟩

/-- A table that reads so, of each slice of which something more is known. -/
def TabRP (w : World) (K : Nat) (v : Value) (rows : List Rw) (P : Value → Nat → Prop) : Prop :=
  rows.length ≤ 100000 ∧ ∃ qs : List Rq, qs.map Rq.r = rows ∧ Rd w 2 v rows.length (rqc qs) ∧ (∀ q ∈ qs, RowOk w K q) ∧ (∀ q ∈ qs, P q.a q.r.ls.length ∧ P q.b q.r.ss.length) ∧ P v rows.length
theorem TabRP.r {w : World} {K : Nat} {v : Value} {rows : List Rw} {P : Value → Nat → Prop} (h : TabRP w K v rows P) : TabR w K v rows := by
  obtain ⟨h0, qs, h1, h2, h3, _⟩ := h
  exact ⟨h0, qs, h1, h2, h3⟩
theorem TabR.p {w : World} {K : Nat} {v : Value} {rows : List Rw} (h : TabR w K v rows) : TabRP w K v rows (fun _ _ => True) := by
  obtain ⟨h0, qs, h1, h2, h3⟩ := h
  exact ⟨h0, qs, h1, h2, h3, fun _ _ => ⟨trivial, trivial⟩, trivial⟩
theorem TabRP.on {w w' : World} {K : Nat} {v : Value} {rows : List Rw} {P : Value → Nat → Prop} (h : TabRP w K v rows P) (b : Below w.heap.size w w') : TabRP w' K v rows P := by
  obtain ⟨h0, qs, h1, h2, h3, h4, h5⟩ := h
  exact ⟨h0, qs, h1, h2.on b, fun q hq => (h3 q hq).on b, h4, h5⟩
theorem TabN.readP {w : World} {base K : Nat} {v : Value} {qs : List Rq} {P : Value → Nat → Prop} (h : TabN w base K v qs) (hl : qs.length ≤ 100000) (hq : ∀ q ∈ qs, P q.a q.r.ls.length ∧ P q.b q.r.ss.length) (hv : P v qs.length) : TabRP w K v (qs.map Rq.r) P :=
  ⟨by rw [List.length_map]; exact hl, qs, rfl, by rw [List.length_map]; exact Rd.of_sl h.sl, fun q hq => (h.ok q hq).1, hq, by rw [List.length_map]; exact hv⟩
theorem pq_snoc {P : Value → Nat → Prop} {qs : List Rq} {x : Rq} (h : ∀ q ∈ qs, P q.a q.r.ls.length ∧ P q.b q.r.ss.length) (hx : P x.a x.r.ls.length ∧ P x.b x.r.ss.length) : ∀ q ∈ qs ++ [x], P q.a q.r.ls.length ∧ P q.b q.r.ss.length := fun q hq => by
  rcases List.mem_append.1 hq with hq | hq
  · exact h q hq
  · rw [List.mem_singleton] at hq
    subst hq
    exact hx

/-- Such a table in memory of one's own. -/
def TabNP (w : World) (B K : Nat) (v : Value) (rows : List Rw) (P : Value → Nat → Prop) : Prop :=
  rows.length ≤ 100000 ∧ ∃ qs : List Rq, qs.map Rq.r = rows ∧ TabN w B K v qs ∧ (∀ q ∈ qs, P q.a q.r.ls.length ∧ P q.b q.r.ss.length) ∧ P v rows.length
theorem TabNP.rp {w : World} {B K : Nat} {v : Value} {rows : List Rw} {P : Value → Nat → Prop} (h : TabNP w B K v rows P) : TabRP w K v rows P := by
  obtain ⟨h0, qs, rfl, h2, h3, h4⟩ := h
  exact ⟨h0, qs, rfl, by rw [List.length_map]; exact Rd.of_sl h2.sl, fun q hq => (h2.ok q hq).1, h3, h4⟩
theorem TabNP.on {w w' : World} {B K : Nat} {v : Value} {rows : List Rw} {P : Value → Nat → Prop} (h : TabNP w B K v rows P) (b : Below w.heap.size w w') : TabNP w' B K v rows P := by
  obtain ⟨h0, qs, h1, h2, h3⟩ := h
  exact ⟨h0, qs, h1, h2.on b, h3⟩
theorem TabNP.mono {w : World} {B B' K K' : Nat} {v : Value} {rows : List Rw} {P : Value → Nat → Prop} (h : TabNP w B K v rows P) (hb : B' ≤ B) (hk : K ≤ K') : TabNP w B' K' v rows P := by
  obtain ⟨h0, qs, h1, h2, h3⟩ := h
  exact ⟨h0, qs, h1, ⟨h2.sl.mono hb, fun q hq => ⟨⟨(h2.ok q hq).1.l, (h2.ok q hq).1.s, (h2.ok q hq).1.hl, Nat.le_trans (h2.ok q hq).1.hs hk⟩, (h2.ok q hq).2⟩⟩, h3⟩
theorem TabN.readNP {w : World} {base B K : Nat} {v : Value} {qs : List Rq} {P : Value → Nat → Prop} (h : TabN w base K v qs) (hB : B ≤ base) (hl : qs.length ≤ 100000) (hq : ∀ q ∈ qs, P q.a q.r.ls.length ∧ P q.b q.r.ss.length) (hv : P v qs.length) : TabNP w B K v (qs.map Rq.r) P :=
  ⟨by rw [List.length_map]; exact hl, qs, rfl, ⟨h.sl.mono hB, h.ok⟩, hq, by rw [List.length_map]; exact hv⟩

/-- One step of the document's Add. -/
def stepT (ls : List Pr) (s : Sp) (o : List Rw × Bool) (r : Rw) : List Rw × Bool :=
  if cmpS ls r.ls = 0 then (o.1 ++ [⟨r.ls, putS r.ss s⟩], true)
  else if o.2 = false ∧ cmpS ls r.ls < 0 then (o.1 ++ [⟨ls, [s]⟩, r], true) else (o.1 ++ [r], o.2)
def sofarT (ls : List Pr) (s : Sp) (l : List Rw) : List Rw × Bool := l.foldl (stepT ls s) ([], false)
theorem sofarT_snoc (ls : List Pr) (s : Sp) (l : List Rw) (x : Rw) : sofarT ls s (l ++ [x]) = stepT ls s (sofarT ls s l) x := by simp [sofarT, List.foldl_append]
theorem stepT_len (ls : List Pr) (s : Sp) (o : List Rw × Bool) (x : Rw) : (stepT ls s o x).1.length + dn (stepT ls s o x).2 ≤ o.1.length + 1 + dn o.2 := by
  unfold stepT
  obtain ⟨o, d⟩ := o
  split
  · cases d <;> simp [dn]
  · split
    · rename_i h
      have : d = false := h.1
      subst this
      simp [dn]
    · cases d <;> simp [dn]
theorem foldT_len (ls : List Pr) (s : Sp) : ∀ (l : List Rw) (o : List Rw × Bool), (l.foldl (stepT ls s) o).1.length + dn (l.foldl (stepT ls s) o).2 ≤ o.1.length + l.length + dn o.2
  | [], o => by simp
  | x :: l, o => by
    have h1 := foldT_len ls s l (stepT ls s o x)
    have h2 := stepT_len ls s o x
    rw [List.foldl_cons, List.length_cons]
    omega
/-- A table with a sample of labels. -/
def addT (l : List Rw) (ls : List Pr) (s : Sp) : List Rw := if (sofarT ls s l).2 = true then (sofarT ls s l).1 else (sofarT ls s l).1 ++ [⟨ls, [s]⟩]
theorem addT_len (l : List Rw) (ls : List Pr) (s : Sp) : (addT l ls s).length ≤ l.length + 1 := by
  have h : (sofarT ls s l).1.length + dn (sofarT ls s l).2 ≤ ([] : List Rw).length + l.length + dn false := foldT_len ls s l ([], false)
  simp only [List.length_nil, dn] at h
  unfold addT
  split
  · rename_i hd; omega
  · rename_i hd
    have : (sofarT ls s l).2 = false := by simpa using hd
    rw [this] at h
    rw [List.length_append]
    simp only at h
    simp only [List.length_cons, List.length_nil]
    omega
end Go.Proofs.YtfckgcckpfklaaaGreatDoor

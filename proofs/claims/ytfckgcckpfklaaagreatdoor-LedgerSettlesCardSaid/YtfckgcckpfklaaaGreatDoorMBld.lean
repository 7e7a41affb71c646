/- The library's contracts, laid over this program. Layer 6: a set as a text; what a name says. Layer 6: the first known answers. Layer 6: a slice of pairs that came in, opened; Few. Layer 6: two sets compared. -/
import Derived.Shelf.Strings.Builder1
import Derived.Test.YtfckgcckpfklaaaGreatDoorProg
import Derived.Test.YtfckgcckpfklaaaGreatDoorML8
import Derived.Deep.SlicePairs
import Derived.Deep.RegionHeld3
import Derived.OpenShut
namespace Go.Proofs.YtfckgcckpfklaaaGreatDoor
open Go.Shelf Go.Proofs
end Go.Proofs.YtfckgcckpfklaaaGreatDoor

namespace Go.Proofs.YtfckgcckpfklaaaGreatDoor
open Go.RowKit Go.Lib

/-- A pair's text. -/
def pairT (p : Pr) : List UInt8 := p.n ++ 61 :: p.v
/-- The texts of pairs behind others. -/
def txtR : List Pr → List UInt8
  | [] => []
  | p :: l => 44 :: pairT p ++ txtR l
/-- A set's text. -/
def txt : List Pr → List UInt8
  | [] => []
  | p :: l => pairT p ++ txtR l
theorem txtR_snoc (l : List Pr) (p : Pr) : txtR (l ++ [p]) = txtR l ++ 44 :: pairT p := by
  induction l with
  | nil => simp [txtR]
  | cons q l ih => simp [txtR, ih]
theorem txt_snoc (q : Pr) (l : List Pr) (p : Pr) : txt (q :: l ++ [p]) = txt (q :: l) ++ 44 :: pairT p := by
  simp [txt, txtR_snoc]
theorem txt_step (ds : List Pr) (i : Nat) (x : Pr) (hx : ds[i]? = some x) : txt (ds.take (i + 1)) = (if i = 0 then [] else txt (ds.take i) ++ [44]) ++ (x.n ++ [61] ++ x.v) := by
  have hi : i < ds.length := (List.getElem?_eq_some_iff.1 hx).1
  have ht : ds.take (i + 1) = ds.take i ++ [x] := by
    rw [List.take_add_one, hx]; rfl
  rw [ht]
  cases i with
  | zero => simp [txt, txtR, pairT]
  | succ j =>
    cases ds with
    | nil => simp at hi
    | cons q r =>
      rw [List.take_succ_cons, txt_snoc]
      simp [pairT]
theorem txtR_append (a b : List Pr) : txtR (a ++ b) = txtR a ++ txtR b := by
  induction a with
  | nil => rfl
  | cons q a ih => simp [txtR, ih]
theorem txtR_len (a b : List Pr) : (txtR a).length ≤ (txtR (a ++ b)).length := by
  rw [txtR_append, List.length_append]; omega
theorem txt_len (ds : List Pr) (i : Nat) : (txt (ds.take i)).length ≤ (txt ds).length := by
  conv => rhs; rw [← List.take_append_drop i ds]
  cases hd : ds.take i with
  | nil => simp [txt]
  | cons q a =>
    have := txtR_len a (ds.drop i)
    simp [txt]; omega

/-- A pair in a box of its own. -/
def PB (P : Nat) (x : Pr) (w : World) : Prop := w.heap[P]? = some (.cells #[.string (bs x.n), .string (bs x.v)] 74 (0, 0))
theorem PB.c0 {P : Nat} {x : Pr} {w : World} (h : PB P x w) : w.cell? ⟨P, 0, none⟩ = some (.string (bs x.n)) := by rw [Lib.cell_of_heap h]; rfl
theorem PB.c1 {P : Nat} {x : Pr} {w : World} (h : PB P x w) : w.cell? ⟨P, 1, none⟩ = some (.string (bs x.v)) := by rw [Lib.cell_of_heap h]; rfl
theorem PB.new (w : World) (x : Pr) : PB w.heap.size x (w.alloc (.cells #[.string (bs x.n), .string (bs x.v)] 74)) := heap_alloc_new w _

/-- What a name says. -/
def getP (n : List UInt8) : List Pr → List UInt8
  | [] => []
  | p :: l => if p.n = n then p.v else getP n l
set_option maxHeartbeats 1000000 in
set_option maxRecDepth 100000 in
theorem get_lb (v : Value) (ds : List Pr) (q : List UInt8) (w : World) (h : Rd w 2 v ds.length (prc ds)) (hn0 : ds.length ≤ 1000000) :
    Calls Tryz.prog 58 #[v, .string (bs q)] w fun e w' => e = .returned (.string (bs (getP q ds))) ∧ Below w.heap.size w w' := by
  have hT := bs_toList
  obtain ⟨_, a, cap, g, off, rfl, hg, hc⟩ := h
  obtain ⟨n, hn⟩ : ∃ n, n = ds.length := ⟨_, rfl⟩
  rw [← hn] at hg hc hn0 ⊢
  have HN := Lib.hid hn
  have HC := Lib.hid hc
  have HG := Lib.hid hg
  clear hn hc hg
  go_enter Tryz.func58, Tryz.ntmps58
  go_wp2_with fail
  go_loopw [9] (fun i' wr => ∃ (i : Nat), i' = .int .i64 i ∧ i ≤ n ∧ Hid (getP q ds = getP q (ds.drop i)) ∧ Below w.heap.size w wr) (fun i' _ => n - (intOf i').toNat)
  case atStart => exact ⟨0, rfl, by omega, rfl, Below.refl _ _⟩
  case round =>
    obtain ⟨i, rfl, hi, hk, hb⟩ := hrel
    by_cases hlt : i < n
    · obtain ⟨rfl, hgl⟩ := HG.out (by omega)
      obtain ⟨x, hx⟩ : ∃ x, ds[i]? = some x := ⟨ds[i]'(by have := HN.out; omega), List.getElem?_eq_getElem (by have := HN.out; omega)⟩
      obtain ⟨v0, v1⟩ := prc_at ds i x hx
      have q0 := ((hb.cell (p := ⟨g, off + i * 2, none⟩) hgl).trans (HC.out (i * 2) (by omega))).trans v0
      have q1 := ((hb.cell (p := ⟨g, off + (i * 2 + 1), none⟩) hgl).trans (HC.out (i * 2 + 1) (by omega))).trans v1
      rw [← Nat.add_assoc] at q1
      have hd : ds.drop i = x :: ds.drop (i + 1) := by
        rw [List.drop_eq_getElem_cons (by have := HN.out; omega)]
        congr 1
        rw [List.getElem?_eq_getElem (by have := HN.out; omega)] at hx
        exact Option.some.inj hx
      have hkk := hk.out
      rw [hd, getP] at hkk
      have hgw : g ≠ wr.heap.size := by have := hb.size; omega
      have hil : (i : Int) < n := by omega
      by_cases he : x.n = q
      · rw [if_pos he] at hkk
        have HQ := Lib.hid hkk
        have hbq : (x.n == q) = true := by simpa using he
        clear hkk hk hd v0 v1 hx he
        go_wp2
        go_ret
        exact ⟨by rw [HQ.out]; rfl, hb.alloc hb.size _⟩
      · rw [if_neg he] at hkk
        have HQ := Lib.hid hkk
        have hbq : (x.n == q) = false := by simpa using he
        clear hkk hk hd v0 v1 hx he
        go_wp2
        exact ⟨⟨i + 1, by simp, by omega, HQ.out, hb.alloc hb.size _⟩, by simp [intOf]; omega⟩
    · have hil : ¬ (i : Int) < n := by omega
      have hd : ds.drop i = [] := List.drop_eq_nil_of_le (by have := HN.out; omega)
      have hkk := hk.out
      rw [hd, getP] at hkk
      have HQ := Lib.hid hkk
      clear hkk hk hd
      go_wp2
      go_ret
      exact ⟨by rw [HQ.out]; rfl, hb⟩
end Go.Proofs.YtfckgcckpfklaaaGreatDoor

namespace Go.Proofs.YtfckgcckpfklaaaGreatDoor
open Go.RowKit Go.Lib

def setOf (w : World) (v : Value) (ds : List Pr) : Prop := Rd w 2 v ds.length (prc ds)
end Go.Proofs.YtfckgcckpfklaaaGreatDoor

namespace Go.Proofs.YtfckgcckpfklaaaGreatDoor
open Go.RowKit Go.Lib Go.Deep Go.ChangeShapes Go.WideShapes

/-- Pairs read from cells, the first ten. -/
def PrsAt (w : World) (ao : Option Addr) (len : Nat) (ds : List Pr) : Prop :=
  ds.length = min len 10 ∧ (0 < len → ∃ b off, ao = some ⟨b, off, none⟩ ∧ b < w.heap.size ∧ ∀ i x, ds[i]? = some x → w.cell? ⟨b, off + i * 2, none⟩ = some (.string (bs x.n)) ∧ w.cell? ⟨b, off + i * 2 + 1, none⟩ = some (.string (bs x.v)))
theorem PrsAt.below {w w' : World} {ao : Option Addr} {len : Nat} {ds : List Pr} (h : PrsAt w ao len ds) (b : Below w.heap.size w w') : PrsAt w' ao len ds := by
  refine ⟨h.1, fun h0 => ?_⟩
  obtain ⟨g, off, he, hg, hc⟩ := h.2 h0
  refine ⟨g, off, he, Nat.lt_of_lt_of_le hg b.size, fun i x hx => ?_⟩
  obtain ⟨c0, c1⟩ := hc i x hx
  exact ⟨(b.cell (p := ⟨g, off + i * 2, none⟩) hg).trans c0, (b.cell (p := ⟨g, off + i * 2 + 1, none⟩) hg).trans c1⟩

def listOf : Value → List UInt8 | .string s => s.data.toList | _ => []
theorem prs_open {H : Type} {enc : TypeId × Value → H} {W : World} {base : Nat} {spare : Nat → Bool} {held : Bool} {fuel : Nat} {ao : Option Addr} {len cap : Nat} {x : DataW H × List MemPlace}
    (h : DataW.trod enc Tryz.prog W base spare held fuel 35 [.slice ao len cap] = some x) : ∃ ds, len ≤ maxLen ∧ PrsAt W ao len ds := by
  rcases open_slice_pairs Tryz.underlying35 Tryz.underlying74 (by kernel_rfl) rfl rfl (by kernel_rfl) (by kernel_rfl) h with ⟨hcs, _⟩ | ⟨a, len', cap', m, n, V0, V1, D0, D1, P0, P1, hcs, hb, hl, hm, hmm, _, hi⟩
  · simp only [List.cons.injEq, Value.slice.injEq, and_true] at hcs
    obtain ⟨rfl, rfl, rfl⟩ := hcs
    exact ⟨[], Nat.zero_le _, by simp, fun h => absurd h (Nat.lt_irrefl 0)⟩
  · simp only [List.cons.injEq, Value.slice.injEq, and_true] at hcs
    obtain ⟨rfl, rfl, rfl⟩ := hcs
    have hlm : len ≤ m := by rw [hmm]; split <;> omega
    refine ⟨(List.range (min len 10)).map fun i => ⟨listOf (V0 i), listOf (V1 i)⟩, Nat.le_trans hl hm, by simp, fun h0 => ?_⟩
    obtain ⟨b, off, spot⟩ := a
    have hspot : spot = none := by
      have := World.cell?_spot (hi 0 (by omega)).1
      simpa [Addr.add] using this
    subst hspot
    have hc0 := (hi 0 (by omega)).1
    refine ⟨b, off, rfl, ?_, fun i x hik => ?_⟩
    · have := World.block_lt_of_cell? W _ hc0
      rwa [add_plain] at this
    · have hlt : i < min len 10 := by
        have := (List.getElem?_eq_some_iff.1 hik).1
        simpa using this
      obtain ⟨g0, g1, t0, t1⟩ := hi i (by omega)
      rw [add_plain] at g0 g1
      obtain ⟨s0, hs0, _, _⟩ := DataW.trod_string Tryz.underlying9 t0
      obtain ⟨s1, hs1, _, _⟩ := DataW.trod_string Tryz.underlying9 t1
      simp only [List.cons.injEq, and_true] at hs0 hs1
      simp only [List.getElem?_map, List.getElem?_range hlt, Option.map_some, Option.some.injEq] at hik
      subst hik
      rw [← Nat.add_assoc] at g1
      refine ⟨?_, ?_⟩
      · rw [g0, hs0]; rfl
      · rw [g1, hs1]; rfl

/-- 'append(v, x..)', in a region that draws its order. -/
theorem step_append_slB {P : Program} {ops : Array Oper} {o : Oper} {a : Act} {w : World} {K : Act → World → Prop} {Q : Exit → Act → World → Prop} {E : Prop} (hgd : o.guard = none) (s x : Operand) (t : TypeId)
    (ho : o.op = .call { callee := .builtin .append, args := #[s, x], argTypes := #[t, t] })
    (base : Nat) (e : TypeId) (i : TypeInfo) (z : Value) (size bytes : Nat) (ht : P.underlying t = some (.slice e)) (hi : P.info? e = some i) (hz : i.zero = some z)
    (hsize : i.size = size) (hby : i.bytes = bytes) (hzs : z.cells.size = size) (hsz : 0 < size)
    (v : Value) (n : Nat) (xs : List Value) (hs : a.eval s = v) (hown : Sl w base size v n xs)
    (ad : Addr) (m c : Nat) (news : List Value) (hx : a.eval x = .slice (some ad) m c) (hl : news.length = m * size) (hnews : ∀ j u, news[j]? = some u → w.cell? (ad.add j) = some u) (h1 : ∀ u ∈ news, u.oneCell' = true)
    (h63 : n + m ≤ maxLen) (hbytes : (n + m) * bytes ≤ 140737488355328) (hbase : base ≤ w.heap.size)
    (h : ∀ v' w', Ext base size w v n xs w' v' (n + m) (xs ++ news) → K (a.put o.dst v') w') :
    if Region.wanted o (yielded ops a.tmps) = true then Oper.wp P o a w K Q else E := by
  have hw : Region.wanted o (yielded ops a.tmps) = true := by simp [Region.wanted, hgd]
  rw [if_pos hw]
  obtain ⟨v', w', hr, h2⟩ := run_append_sl (P := P) w base t o.type e i z size bytes ht hi hz hsize hby hzs hsz v n xs hown ad m c news hl hnews h1 h63 hbytes hbase
  unfold Oper.wp execOp
  simp only [ho, resolve, invoke, builtin, Sem.run_bind, Sem.run_pure, Result.andThen_ok, List.map_toArray, List.map_cons, List.map_nil, hs, hx, hr]
  exact h v' w' h2

theorem cutB_bs (d : List UInt8) (n : Nat) : cutB (bs d) n = bs (d.take n) := by
  unfold cutB
  rw [bs_size]
  split
  · rw [extract_bs0]; rfl
  · rw [List.take_of_length_le (by omega)]
/-- Pairs of short texts. -/
def f42 (ds : List Pr) : List Pr := ds.map fun x => ⟨x.n.take 42, x.v.take 42⟩
theorem f42_len (ds : List Pr) : (f42 ds).length = ds.length := by simp [f42]
theorem two_cells (w : World) (a b : Value) (t : TypeId) : ∀ j u, [a, b][j]? = some u → ((w.alloc (.cells #[a, b] t)).drew).cell? ((⟨w.heap.size, 0, none⟩ : Addr).add j) = some u := by
  intro j u hu
  have := (Sl.lit w w.heap.size 2 1 #[a, b] t (Nat.le_refl _) (by decide) rfl).cells j u hu
  exact this

end Go.Proofs.YtfckgcckpfklaaaGreatDoor

namespace Go.Proofs.YtfckgcckpfklaaaGreatDoor
open Go.RowKit Go.Lib

/-- Two sets compared, pair by pair. -/
def cmpS : List Pr → List Pr → Int
  | [], [] => 0
  | [], _ :: _ => -1
  | _ :: _, [] => 1
  | x :: a, y :: b => if cfP x y = 0 then cmpS a b else cfP x y

theorem cmpp_at (x y : Pr) (w : World) (c : Int) (hc : cfP x y = c) : Calls Tryz.prog 74 #[prV x, prV y] w fun e w' => e = .returned (.int .i64 c) ∧ Below w.heap.size w w' := by
  subst hc
  refine (cmpp_any x y w).mono ?_
  rintro e w' ⟨rfl, q, os, rfl⟩
  exact ⟨rfl, ⟨rfl, rfl, rfl, by simp, fun k hk => Sort.heap_grow_old _ _ hk⟩⟩

set_option maxHeartbeats 1000000 in
set_option maxRecDepth 100000 in
theorem cmpf_any (u v : Value) (a b : List Pr) (w : World) (h : Rd w 2 u a.length (prc a)) (k : Rd w 2 v b.length (prc b)) (hm : a.length ≤ 1000000) (hm2 : b.length ≤ 1000000) :
    Calls Tryz.prog 73 #[u, v, .func (.func 74) #[] #[]] w fun e w' => e = .returned (.int .i64 (cmpS a b)) ∧ Below w.heap.size w w' := by
  obtain ⟨_, ua, ucap, g, off, rfl, hg, hc⟩ := h
  obtain ⟨_, va, vcap, g2, off2, rfl, hg2, hc2⟩ := k
  obtain ⟨n, hn⟩ : ∃ n, n = a.length := ⟨_, rfl⟩
  obtain ⟨m, hmm⟩ : ∃ m, m = b.length := ⟨_, rfl⟩
  rw [← hn] at hg hc hm ⊢
  rw [← hmm] at hg2 hc2 hm2 ⊢
  have HN := Lib.hid hn; have HM := Lib.hid hmm
  have HC := Lib.hid hc; have HC2 := Lib.hid hc2
  have HG := Lib.hid hg; have HG2 := Lib.hid hg2
  clear hn hmm hc hc2 hg hg2
  go_enter Tryz.func73, Tryz.ntmps73
  go_wp2_with fail
  go_loopw [13] (fun i' wr => ∃ (i : Nat), i' = .int .i64 i ∧ i ≤ n ∧ i ≤ m ∧ Hid (cmpS a b = cmpS (a.drop i) (b.drop i)) ∧ Below w.heap.size w wr) (fun i' _ => n - (intOf i').toNat)
  case atStart => exact ⟨0, rfl, by omega, by omega, rfl, Below.refl _ _⟩
  case round =>
    obtain ⟨i, rfl, hi, hj, hk, hb⟩ := hrel
    by_cases hlt : i < n
    · obtain ⟨rfl, hgl⟩ := HG.out (by omega)
      obtain ⟨x, hx⟩ : ∃ x, a[i]? = some x := ⟨a[i]'(by have := HN.out; omega), List.getElem?_eq_getElem (by have := HN.out; omega)⟩
      obtain ⟨v0, v1⟩ := prc_at a i x hx
      have q0 := ((hb.cell (p := ⟨g, off + i * 2, none⟩) hgl).trans (HC.out (i * 2) (by omega))).trans v0
      have q1 := ((hb.cell (p := ⟨g, off + (i * 2 + 1), none⟩) hgl).trans (HC.out (i * 2 + 1) (by omega))).trans v1
      rw [← Nat.add_assoc] at q1
      have hd : a.drop i = x :: a.drop (i + 1) := by
        rw [List.drop_eq_getElem_cons (by have := HN.out; omega)]
        congr 1
        rw [List.getElem?_eq_getElem (by have := HN.out; omega)] at hx
        exact Option.some.inj hx
      have hgw : g ≠ wr.heap.size := by have := hb.size; omega
      have hil : (i : Int) < n := by omega
      by_cases hjm : i < m
      · obtain ⟨rfl, hgl2⟩ := HG2.out (by omega)
        obtain ⟨y, hy⟩ : ∃ y, b[i]? = some y := ⟨b[i]'(by have := HM.out; omega), List.getElem?_eq_getElem (by have := HM.out; omega)⟩
        obtain ⟨u0, u1⟩ := prc_at b i y hy
        have p0 := ((hb.cell (p := ⟨g2, off2 + i * 2, none⟩) hgl2).trans (HC2.out (i * 2) (by omega))).trans u0
        have p1 := ((hb.cell (p := ⟨g2, off2 + (i * 2 + 1), none⟩) hgl2).trans (HC2.out (i * 2 + 1) (by omega))).trans u1
        rw [← Nat.add_assoc] at p1
        have hd2 : b.drop i = y :: b.drop (i + 1) := by
          rw [List.drop_eq_getElem_cons (by have := HM.out; omega)]
          congr 1
          rw [List.getElem?_eq_getElem (by have := HM.out; omega)] at hy
          exact Option.some.inj hy
        have hgw2 : g2 ≠ wr.heap.size := by have := hb.size; omega
        have hjl : ¬ (m : Int) ≤ i := by omega
        have ba := (Below.refl wr.heap.size wr).alloc (Nat.le_refl _) (Obj.cells #[.string (bs x.n), .string (bs x.v)] 74)
        have r0 := (ba.cell (p := ⟨g2, off2 + i * 2, none⟩) (by have := hb.size; show g2 < wr.heap.size; omega)).trans p0
        have r1 := (ba.cell (p := ⟨g2, off2 + i * 2 + 1, none⟩) (by have := hb.size; show g2 < wr.heap.size; omega)).trans p1
        have hkk := hk.out
        rw [hd, hd2, cmpS] at hkk
        have HP := Lib.hid (fun W => cmpp_at x y W _ rfl)
        generalize cfP x y = c at hkk HP
        unfold prV at HP
        by_cases hc0 : c = 0
        · subst hc0
          rw [if_pos rfl] at hkk
          have HQ := Lib.hid hkk
          clear hkk hk hd hd2 v0 v1 u0 u1 hx hy
          go_wp2_with fail
          refine (HP.out _).mono ?_
          rintro e w1 ⟨rfl, b1⟩
          go_wp2
          exact ⟨⟨i + 1, by simp, by omega, by omega, HQ.out, ((hb.alloc hb.size _).alloc (by have := hb.size; simp; omega) _).trans (b1.mono (by have := hb.size; simp; omega))⟩, by simp [intOf]; omega⟩
        · rw [if_neg hc0] at hkk
          have HQ := Lib.hid hkk
          clear hkk hk hd hd2 v0 v1 u0 u1 hx hy
          go_wp2_with fail
          refine (HP.out _).mono ?_
          rintro e w1 ⟨rfl, b1⟩
          go_wp2
          go_ret
          exact ⟨by rw [HQ.out]; rfl, ((hb.alloc hb.size _).alloc (by have := hb.size; simp; omega) _).trans (b1.mono (by have := hb.size; simp; omega))⟩
      · have hd2 : b.drop i = [] := List.drop_eq_nil_of_le (by have := HM.out; omega)
        have hjl : (m : Int) ≤ i := by omega
        have hkk := hk.out
        rw [hd, hd2, cmpS] at hkk
        have HQ := Lib.hid hkk
        clear hkk hk hd hd2 v0 v1 hx
        go_wp2
        go_ret
        exact ⟨by rw [HQ.out]; rfl, hb.alloc hb.size _⟩
    · have hin : i = n := by omega
      subst hin
      have hil : ¬ (i : Int) < i := by omega
      have hd : a.drop i = [] := List.drop_eq_nil_of_le (by have := HN.out; omega)
      by_cases hjm : i < m
      · have hjl : (i : Int) < m := by omega
        have hne : ∃ y r, b.drop i = y :: r := ⟨b[i]'(by have := HM.out; omega), b.drop (i + 1), List.drop_eq_getElem_cons (by have := HM.out; omega)⟩
        obtain ⟨y, r, hd2⟩ := hne
        have hkk := hk.out
        rw [hd, hd2, cmpS] at hkk
        have HQ := Lib.hid hkk
        clear hkk hk hd hd2
        go_wp2
        go_ret
        exact ⟨by rw [HQ.out]; rfl, hb⟩
      · have him : i = m := by omega
        subst him
        have hd2 : b.drop i = [] := List.drop_eq_nil_of_le (by have := HM.out; omega)
        have hkk := hk.out
        rw [hd, hd2, cmpS] at hkk
        have HQ := Lib.hid hkk
        clear hkk hk hd hd2
        go_wp2
        go_ret
        exact ⟨by rw [HQ.out]; rfl, hb⟩
theorem cmp_lb (u v : Value) (a b : List Pr) (w : World) (h : Rd w 2 u a.length (prc a)) (k : Rd w 2 v b.length (prc b)) (hm : a.length ≤ 1000000) (hm2 : b.length ≤ 1000000) :
    Calls Tryz.prog 53 #[u, v] w fun e w' => e = .returned (.int .i64 (cmpS a b)) ∧ Below w.heap.size w w' := by
  have H := Lib.hid (cmpf_any u v a b w h k hm hm2)
  clear h k
  go_enter Tryz.func53, Tryz.ntmps53
  go_wp2_with fail
  refine H.out.mono ?_
  rintro e w1 ⟨rfl, b1⟩
  go_wp2
  go_ret
  exact ⟨rfl, b1⟩
end Go.Proofs.YtfckgcckpfklaaaGreatDoor

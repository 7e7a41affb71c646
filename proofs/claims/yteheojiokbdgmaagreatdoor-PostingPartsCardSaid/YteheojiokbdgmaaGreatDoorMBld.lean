/- The library's contracts, laid over this program. Layer 6: a set as a text; what a name says. Layer 6: the first known answers. Layer 6: a slice of pairs that came in, opened; Few. Layer 12: a slice of series that came in, opened. -/
import Derived.Shelf.Strings.Builder1
import Derived.Test.YteheojiokbdgmaaGreatDoorProg
import Derived.Test.YteheojiokbdgmaaGreatDoorML8
import Derived.Deep.SlicePairs
import Derived.Deep.RegionHeld3
import Derived.OpenShut
import Derived.Deep.Slices
import Derived.ChangeSlices
namespace Go.Proofs.YteheojiokbdgmaaGreatDoor
open Go.Shelf Go.Proofs
end Go.Proofs.YteheojiokbdgmaaGreatDoor

namespace Go.Proofs.YteheojiokbdgmaaGreatDoor
open Go.RowKit Go.Lib

/-- A pair's text. -/
def pairT (p : Pr) : List UInt8 := p.n ++ 61 :: p.v
/-- The texts of pairs behind others. -/
def txtR : List Pr → List UInt8
  | [] => []
  | p :: l => 44 :: pairT p ++ txtR l
/-- A set's text. -/
def txt : List Pr → List UInt8
  | [] => []
  | p :: l => pairT p ++ txtR l
theorem txtR_snoc (l : List Pr) (p : Pr) : txtR (l ++ [p]) = txtR l ++ 44 :: pairT p := by
  induction l with
  | nil => simp [txtR]
  | cons q l ih => simp [txtR, ih]
theorem txt_snoc (q : Pr) (l : List Pr) (p : Pr) : txt (q :: l ++ [p]) = txt (q :: l) ++ 44 :: pairT p := by
  simp [txt, txtR_snoc]
theorem txt_step (ds : List Pr) (i : Nat) (x : Pr) (hx : ds[i]? = some x) : txt (ds.take (i + 1)) = (if i = 0 then [] else txt (ds.take i) ++ [44]) ++ (x.n ++ [61] ++ x.v) := by
  have hi : i < ds.length := (List.getElem?_eq_some_iff.1 hx).1
  have ht : ds.take (i + 1) = ds.take i ++ [x] := by
    rw [List.take_add_one, hx]; rfl
  rw [ht]
  cases i with
  | zero => simp [txt, txtR, pairT]
  | succ j =>
    cases ds with
    | nil => simp at hi
    | cons q r =>
      rw [List.take_succ_cons, txt_snoc]
      simp [pairT]
theorem txtR_append (a b : List Pr) : txtR (a ++ b) = txtR a ++ txtR b := by
  induction a with
  | nil => rfl
  | cons q a ih => simp [txtR, ih]
theorem txtR_len (a b : List Pr) : (txtR a).length ≤ (txtR (a ++ b)).length := by
  rw [txtR_append, List.length_append]; omega
theorem txt_len (ds : List Pr) (i : Nat) : (txt (ds.take i)).length ≤ (txt ds).length := by
  conv => rhs; rw [← List.take_append_drop i ds]
  cases hd : ds.take i with
  | nil => simp [txt]
  | cons q a =>
    have := txtR_len a (ds.drop i)
    simp [txt]; omega

/-- A pair in a box of its own. -/
def PB (P : Nat) (x : Pr) (w : World) : Prop := w.heap[P]? = some (.cells #[.string (bs x.n), .string (bs x.v)] 58 (0, 0))
theorem PB.c0 {P : Nat} {x : Pr} {w : World} (h : PB P x w) : w.cell? ⟨P, 0, none⟩ = some (.string (bs x.n)) := by rw [Lib.cell_of_heap h]; rfl
theorem PB.c1 {P : Nat} {x : Pr} {w : World} (h : PB P x w) : w.cell? ⟨P, 1, none⟩ = some (.string (bs x.v)) := by rw [Lib.cell_of_heap h]; rfl
theorem PB.new (w : World) (x : Pr) : PB w.heap.size x (w.alloc (.cells #[.string (bs x.n), .string (bs x.v)] 58)) := heap_alloc_new w _

/-- What a name says. -/
def getP (n : List UInt8) : List Pr → List UInt8
  | [] => []
  | p :: l => if p.n = n then p.v else getP n l
end Go.Proofs.YteheojiokbdgmaaGreatDoor

namespace Go.Proofs.YteheojiokbdgmaaGreatDoor
open Go.RowKit Go.Lib

def setOf (w : World) (v : Value) (ds : List Pr) : Prop := Rd w 2 v ds.length (prc ds)
end Go.Proofs.YteheojiokbdgmaaGreatDoor

namespace Go.Proofs.YteheojiokbdgmaaGreatDoor
open Go.RowKit Go.Lib Go.Deep Go.ChangeShapes Go.WideShapes

/-- Pairs read from cells, the first ten. -/
def PrsAt (w : World) (ao : Option Addr) (len : Nat) (ds : List Pr) : Prop :=
  ds.length = min len 10 ∧ (0 < len → ∃ b off, ao = some ⟨b, off, none⟩ ∧ b < w.heap.size ∧ ∀ i x, ds[i]? = some x → w.cell? ⟨b, off + i * 2, none⟩ = some (.string (bs x.n)) ∧ w.cell? ⟨b, off + i * 2 + 1, none⟩ = some (.string (bs x.v)))
theorem PrsAt.below {w w' : World} {ao : Option Addr} {len : Nat} {ds : List Pr} (h : PrsAt w ao len ds) (b : Below w.heap.size w w') : PrsAt w' ao len ds := by
  refine ⟨h.1, fun h0 => ?_⟩
  obtain ⟨g, off, he, hg, hc⟩ := h.2 h0
  refine ⟨g, off, he, Nat.lt_of_lt_of_le hg b.size, fun i x hx => ?_⟩
  obtain ⟨c0, c1⟩ := hc i x hx
  exact ⟨(b.cell (p := ⟨g, off + i * 2, none⟩) hg).trans c0, (b.cell (p := ⟨g, off + i * 2 + 1, none⟩) hg).trans c1⟩

def listOf : Value → List UInt8 | .string s => s.data.toList | _ => []
theorem prs_open {H : Type} {enc : TypeId × Value → H} {W : World} {base : Nat} {spare : Nat → Bool} {held : Bool} {fuel : Nat} {ao : Option Addr} {len cap : Nat} {x : DataW H × List MemPlace}
    (h : DataW.trod enc Tryz.prog W base spare held fuel 52 [.slice ao len cap] = some x) : ∃ ds, len ≤ maxLen ∧ PrsAt W ao len ds := by
  rcases open_slice_pairs Tryz.underlying52 Tryz.underlying58 (by kernel_rfl) rfl rfl (by kernel_rfl) (by kernel_rfl) h with ⟨hcs, _⟩ | ⟨a, len', cap', m, n, V0, V1, D0, D1, P0, P1, hcs, hb, hl, hm, hmm, _, hi⟩
  · simp only [List.cons.injEq, Value.slice.injEq, and_true] at hcs
    obtain ⟨rfl, rfl, rfl⟩ := hcs
    exact ⟨[], Nat.zero_le _, by simp, fun h => absurd h (Nat.lt_irrefl 0)⟩
  · simp only [List.cons.injEq, Value.slice.injEq, and_true] at hcs
    obtain ⟨rfl, rfl, rfl⟩ := hcs
    have hlm : len ≤ m := by rw [hmm]; split <;> omega
    refine ⟨(List.range (min len 10)).map fun i => ⟨listOf (V0 i), listOf (V1 i)⟩, Nat.le_trans hl hm, by simp, fun h0 => ?_⟩
    obtain ⟨b, off, spot⟩ := a
    have hspot : spot = none := by
      have := World.cell?_spot (hi 0 (by omega)).1
      simpa [Addr.add] using this
    subst hspot
    have hc0 := (hi 0 (by omega)).1
    refine ⟨b, off, rfl, ?_, fun i x hik => ?_⟩
    · have := World.block_lt_of_cell? W _ hc0
      rwa [add_plain] at this
    · have hlt : i < min len 10 := by
        have := (List.getElem?_eq_some_iff.1 hik).1
        simpa using this
      obtain ⟨g0, g1, t0, t1⟩ := hi i (by omega)
      rw [add_plain] at g0 g1
      obtain ⟨s0, hs0, _, _⟩ := DataW.trod_string Tryz.underlying9 t0
      obtain ⟨s1, hs1, _, _⟩ := DataW.trod_string Tryz.underlying9 t1
      simp only [List.cons.injEq, and_true] at hs0 hs1
      simp only [List.getElem?_map, List.getElem?_range hlt, Option.map_some, Option.some.injEq] at hik
      subst hik
      rw [← Nat.add_assoc] at g1
      refine ⟨?_, ?_⟩
      · rw [g0, hs0]; rfl
      · rw [g1, hs1]; rfl

/-- 'append(v, x..)', in a region that draws its order. -/
theorem step_append_sl {P : Program} {ops : Array Oper} {o : Oper} {a : Act} {w : World} {K : Act → World → Prop} {Q : Exit → Act → World → Prop} {E : Prop} (hgd : o.guard = none) (s x : Operand) (t : TypeId)
    (ho : o.op = .call { callee := .builtin .append, args := #[s, x], argTypes := #[t, t] })
    (base : Nat) (e : TypeId) (i : TypeInfo) (z : Value) (size bytes : Nat) (ht : P.underlying t = some (.slice e)) (hi : P.info? e = some i) (hz : i.zero = some z)
    (hsize : i.size = size) (hby : i.bytes = bytes) (hzs : z.cells.size = size) (hsz : 0 < size)
    (v : Value) (n : Nat) (xs : List Value) (hs : a.eval s = v) (hown : Sl w base size v n xs)
    (ad : Addr) (m c : Nat) (news : List Value) (hx : a.eval x = .slice (some ad) m c) (hl : news.length = m * size) (hnews : ∀ j u, news[j]? = some u → w.cell? (ad.add j) = some u) (h1 : ∀ u ∈ news, u.oneCell' = true)
    (h63 : n + m ≤ maxLen) (hbytes : (n + m) * bytes ≤ 140737488355328) (hbase : base ≤ w.heap.size)
    (h : ∀ v' w', Ext base size w v n xs w' v' (n + m) (xs ++ news) → K (a.put o.dst v') w') :
    if Region.wanted o (yielded ops a.tmps) = true then Oper.wp P o a w K Q else E := by
  have hw : Region.wanted o (yielded ops a.tmps) = true := by simp [Region.wanted, hgd]
  rw [if_pos hw]
  obtain ⟨v', w', hr, h2⟩ := run_append_sl (P := P) w base t o.type e i z size bytes ht hi hz hsize hby hzs hsz v n xs hown ad m c news hl hnews h1 h63 hbytes hbase
  unfold Oper.wp execOp
  simp only [ho, resolve, invoke, builtin, Sem.run_bind, Sem.run_pure, Result.andThen_ok, List.map_toArray, List.map_cons, List.map_nil, hs, hx, hr]
  exact h v' w' h2

theorem cutB_bs (d : List UInt8) (n : Nat) : cutB (bs d) n = bs (d.take n) := by
  unfold cutB
  rw [bs_size]
  split
  · rw [extract_bs0]; rfl
  · rw [List.take_of_length_le (by omega)]
theorem cut42 (d : List UInt8) (w : World) : Calls Tryz.prog 31 #[.string (bs d), .int .i64 42] w fun e w' => e = .returned (.string (bs (d.take 42))) ∧ w = w' :=
  cut_is (bs d) (d.take 42) 42 42 rfl (cutB_bs d 42) w

/-- Pairs of short texts. -/
def f42 (ds : List Pr) : List Pr := ds.map fun x => ⟨x.n.take 42, x.v.take 42⟩
theorem f42_len (ds : List Pr) : (f42 ds).length = ds.length := by simp [f42]
theorem two_cells (w : World) (a b : Value) (t : TypeId) : ∀ j u, [a, b][j]? = some u → ((w.alloc (.cells #[a, b] t)).drew).cell? ((⟨w.heap.size, 0, none⟩ : Addr).add j) = some u := by
  intro j u hu
  have := (Sl.lit w w.heap.size 2 1 #[a, b] t (Nat.le_refl _) (by decide) rfl).cells j u hu
  exact this

set_option maxHeartbeats 2000000 in
set_option maxRecDepth 100000 in
theorem few_any (ao : Option Addr) (len cap : Nat) (ds : List Pr) (w : World) (hlen : len ≤ maxLen) (h : PrsAt w ao len ds) :
    Calls Tryz.prog 20 #[.slice ao len cap] w (NewP w (f42 ds)) := by
  obtain ⟨i0, hi, hz0, hz1, hz2⟩ := info_parts zc_pair
  have Hz := Lib.hid hz0; have Hs := Lib.hid hz1; have Hb := Lib.hid hz2; have Hi := Lib.hid hi
  clear hz0 hz1 hz2 hi
  obtain ⟨hrl, hcells⟩ := h
  unfold maxLen at hlen
  have hrl1 : ds.length ≤ len := by omega
  have hrl2 : ds.length ≤ 10 := by omega
  have hrl3 : len ≤ ds.length ∨ 10 ≤ ds.length := by omega
  clear hrl
  go_enter Tryz.func20, Tryz.ntmps20
  go_wp2
  go_loopw [3, 4] (fun o' i' wr => ∃ (k : Nat), i' = .int .i64 k ∧ k ≤ ds.length ∧ Sl wr w.heap.size 2 o' k (prc (f42 (ds.take k))) ∧ Below w.heap.size w wr) (fun _ i' _ => ds.length - (intOf i').toNat)
  case atStart => exact ⟨0, rfl, Nat.zero_le _, Sl.lit w w.heap.size 2 0 #[] _ (Nat.le_refl _) (by decide) rfl, (Below.refl _ _).alloc (Nat.le_refl _) _⟩
  case round =>
    obtain ⟨k, rfl, hk, hown, hbel⟩ := hrel
    by_cases hlt : k < ds.length
    · have h1 : k < len := by omega
      have h2 : k < 10 := by omega
      obtain ⟨b, off, hao, hb, hc⟩ := hcells (by omega)
      obtain ⟨x, hx⟩ : ∃ x, ds[k]? = some x := ⟨_, List.getElem?_eq_getElem hlt⟩
      obtain ⟨c0, c1⟩ := hc k x hx
      have hbw := hbel.size
      have p0 : wr.cell? ⟨b, off + k * 2, none⟩ = some (.string (bs x.n)) := (hbel.cell (p := ⟨b, off + k * 2, none⟩) hb).trans c0
      have p1 : wr.cell? ⟨b, off + k * 2 + 1, none⟩ = some (.string (bs x.v)) := (hbel.cell (p := ⟨b, off + k * 2 + 1, none⟩) hb).trans c1
      have HK := Lib.hid hx
      subst hao
      clear hc c0 c1 hx
      go_wp2
      have hbd := hbel.drew
      have i1 : (k : Int) < (len : Int) := by omega
      have i2 : (0 : Int) ≤ (k : Int) := by omega
      have hbr : b < wr.heap.size := by omega
      have q : ∀ o, (wr.alloc o).drew.cell? ⟨b, off + k * 2, none⟩ = some (.string (bs x.n)) ∧ (wr.alloc o).drew.cell? ⟨b, off + k * 2 + 1, none⟩ = some (.string (bs x.v)) := fun o =>
        ⟨(((Below.refl wr.heap.size wr).alloc (Nat.le_refl _) o).drew.cell (p := ⟨b, off + k * 2, none⟩) hbr).trans p0, (((Below.refl wr.heap.size wr).alloc (Nat.le_refl _) o).drew.cell (p := ⟨b, off + k * 2 + 1, none⟩) hbr).trans p1⟩
      go_region_held3 (fun w' => w'.cell? ⟨b, off + k * 2, none⟩ = some (.string (bs x.n)) ∧ w'.cell? ⟨b, off + k * 2 + 1, none⟩ = some (.string (bs x.v)))
        (first | exact ⟨p0, p1⟩ | exact q _ | assumption)
        (first
          | (go_at_call 31; refine (cut42 _ _).mono ?_; rintro e w1 ⟨rfl, rfl⟩)
          | (refine step_append_sl rfl (.tmp 16) (.tmp 30) 52 rfl w.heap.size 58 i0 _ 2 32 Tryz.underlying52 Hi.out Hz.out Hs.out Hb.out rfl (by decide) u3 k (prc (f42 (ds.take k))) (by simp [Act.eval]) (hown.alloc _).drew ⟨wr.heap.size, 0, none⟩ 1 1 [.string (bs (x.n.take 42)), .string (bs (x.v.take 42))] (by simp [Act.eval]) rfl (two_cells _ _ _ _) (by simp [Value.oneCell']) (by unfold maxLen; omega) (by omega) (by simp; omega) ?_; intro v2 w2 x2; have hb2 : Below w.heap.size w w2 := ((hbel.alloc hbw _).drew).trans (x2.below (Nat.le_refl _) (by simp; omega)); have r0 : w2.cell? ⟨b, off + k * 2, none⟩ = some (.string (bs x.n)) ∧ w2.cell? ⟨b, off + k * 2 + 1, none⟩ = some (.string (bs x.v)) := ⟨(hb2.cell (p := ⟨b, off + k * 2, none⟩) hb).trans ((hbel.cell (p := ⟨b, off + k * 2, none⟩) hb).symm.trans p0), (hb2.cell (p := ⟨b, off + k * 2 + 1, none⟩) hb).trans ((hbel.cell (p := ⟨b, off + k * 2 + 1, none⟩) hb).symm.trans p1)⟩))
      go_wp2
      have ht : ds.take (k + 1) = ds.take k ++ [x] := by
        have := HK.out
        rw [List.take_add_one, this]; rfl
      refine ⟨⟨k + 1, by go_num, by omega, ?_, hb2⟩, by simp [intOf]; omega⟩
      rw [ht, f42, List.map_append, prc_append]
      exact x2.now
    · have hv := hown
      have hkk : k = ds.length := by omega
      subst hkk
      rw [List.take_length] at hv
      obtain ⟨a, c, he⟩ := hv.slice
      rw [he] at hv
      have HE := Lib.hid he
      have HV := Lib.hid hv
      clear he hv
      go_wp2
      all_goals
        go_ret
        refine ⟨_, rfl, ?_, hbel⟩
        rw [f42_len]
        have h3 := HV.out
        rw [← HE.out] at h3
        exact h3
end Go.Proofs.YteheojiokbdgmaaGreatDoor

namespace Go.Proofs.YteheojiokbdgmaaGreatDoor
open Go.RowKit Go.Lib Go.Deep Go.ChangeShapes Go.WideShapes
set_option linter.unusedVariables false

/-- A series that came in: where its pairs lie, the first ten of them; does it stay? -/
structure Oi where
  a : Option Addr
  n : Nat
  c : Nat
  ds : List Pr
  st : Bool
instance : Inhabited Oi := ⟨⟨none, 0, 0, [], false⟩⟩
/-- The first twelve, read from cells. -/
structure OsR (w : World) (a : Option Addr) (len : Nat) (zs : List Oi) : Prop where
  hl : zs.length = min len 12
  hm : len ≤ maxLen
  at_ : 0 < len → ∃ g off, a = some ⟨g, off, none⟩ ∧ g < w.heap.size ∧ ∀ i z, zs[i]? = some z → w.cell? ⟨g, off + i * 2, none⟩ = some (.slice z.a z.n z.c) ∧ w.cell? ⟨g, off + i * 2 + 1, none⟩ = some (.bool z.st)
  ps : ∀ z ∈ zs, z.n ≤ maxLen ∧ PrsAt w z.a z.n z.ds
theorem OsR.on {w w' : World} {a : Option Addr} {len : Nat} {zs : List Oi} (h : OsR w a len zs) (b : Below w.heap.size w w') : OsR w' a len zs := by
  refine ⟨h.hl, h.hm, fun h0 => ?_, fun z hz => ⟨(h.ps z hz).1, (h.ps z hz).2.below b⟩⟩
  obtain ⟨g, off, he, hg, hc⟩ := h.at_ h0
  refine ⟨g, off, he, Nat.lt_of_lt_of_le hg b.size, fun i z hz => ?_⟩
  obtain ⟨c0, c1⟩ := hc i z hz
  exact ⟨(b.cell (p := ⟨g, off + i * 2, none⟩) hg).trans c0, (b.cell (p := ⟨g, off + i * 2 + 1, none⟩) hg).trans c1⟩
/-- With its capacity. -/
def OsC (w : World) (a : Option Addr) (len cap : Nat) (zs : List Oi) : Prop := OsR w a len zs ∧ len ≤ cap ∧ cap ≤ maxLen
theorem list_of12 {α : Type} {n : Nat} {P : Nat → α → Prop} (h : ∀ j, j < n → ∃ x, P j x) : ∃ l : List α, l.length = n ∧ ∀ (j : Nat) x, l[j]? = some x → P j x := by
  induction n with
  | zero => exact ⟨[], rfl, fun j x hx => by simp at hx⟩
  | succ n ih =>
    obtain ⟨l, hl, hP⟩ := ih fun j hj => h j (by omega)
    obtain ⟨x, hx⟩ := h n (by omega)
    refine ⟨l ++ [x], by simp [hl], fun j y hy => ?_⟩
    rcases Nat.lt_or_ge j n with hj | hj
    · rw [List.getElem?_append_left (by omega)] at hy
      exact hP j y hy
    · have : j = n := by have := (List.getElem?_eq_some_iff.1 hy).1; simp at this; omega
      subst this
      rw [List.getElem?_append_right (by omega), hl, Nat.sub_self] at hy
      obtain rfl : x = y := by simpa using hy
      exact hx
theorem two12 {α : Type} (l : List α) (h : l.length = 2) : ∃ a b, l = [a, b] := by
  match l, h with
  | [a, b], _ => exact ⟨a, b, rfl⟩
theorem os_open {H : Type} {enc : TypeId × Value → H} {W : World} {base : Nat} {spare : Nat → Bool} {held : Bool} {fuel : Nat} {ao : Option Addr} {len cap : Nat} {x : DataW H × List MemPlace}
    (h : DataW.trod enc Tryz.prog W base spare held fuel 22 [.slice ao len cap] = some x) : ∃ zs, len ≤ maxLen ∧ OsC W ao len cap zs := by
  rcases open_slice Tryz.underlying22 h with ⟨hcs, _⟩ | ⟨a, len', cap', m, n, D, Pl, hcs, hb, hl, hm, hmm, _, hi⟩
  · simp only [List.cons.injEq, Value.slice.injEq, and_true] at hcs
    obtain ⟨rfl, rfl, rfl⟩ := hcs
    exact ⟨[], Nat.zero_le _, ⟨rfl, Nat.zero_le _, fun h => absurd h (Nat.lt_irrefl 0), fun z hz => by cases hz⟩, Nat.le_refl _, Nat.zero_le _⟩
  · simp only [List.cons.injEq, Value.slice.injEq, and_true] at hcs
    obtain ⟨rfl, rfl, rfl⟩ := hcs
    have hlm : len ≤ m := by rw [hmm]; split <;> omega
    have ce : Tryz.prog.cellsOf 55 = 2 := by kernel_rfl
    have each : ∀ i, i < min len 12 → ∃ z : Oi, W.cell? (a.add (i * 2)) = some (.slice z.a z.n z.c) ∧ W.cell? ((a.add (i * 2)).add 1) = some (.bool z.st) ∧ z.n ≤ maxLen ∧ PrsAt W z.a z.n z.ds := by
      intro i hi0
      have him : i < m := by omega
      obtain ⟨cs', h1, h2⟩ := hi i him
      rw [ce] at h1
      obtain ⟨_, hlen, hcell⟩ := World.cells?_some h1
      obtain ⟨c0, c1, rfl⟩ := two12 cs' hlen
      obtain ⟨xs, k, hk, hxy, _, hxl, hf⟩ := DataW.trod_struct Tryz.underlying55 h2
      obtain ⟨y0, y1, rfl⟩ := two12 xs hxl
      have e0 := hcell 0 (by omega); have e1 := hcell 1 (by omega)
      have cp : Tryz.prog.cellsOf 52 = 1 := by kernel_rfl
      have cb : Tryz.prog.cellsOf 4 = 1 := by kernel_rfl
      have g0 := hf 0 _ rfl; have g1 := hf 1 _ rfl
      simp [cp, cb] at g0 g1
      obtain ⟨z1, q1, _⟩ := DataW.trod_bool Tryz.underlying4 g1
      have e0' : W.cell? (a.add (i * 2)) = some c0 := by rw [add_add, Nat.add_zero] at e0; simpa using e0
      have e1' : W.cell? ((a.add (i * 2)).add 1) = some c1 := by simpa using e1
      simp only [List.cons.injEq, and_true] at q1
      subst q1
      rcases DataW.trod_slice Tryz.underlying52 g0 with ⟨q0, _⟩ | ⟨a2, len2, cap2, _, _, _, _, q0, _⟩
      · simp only [List.cons.injEq, and_true] at q0
        subst q0
        obtain ⟨ds, h3, h4⟩ := prs_open g0
        exact ⟨⟨_, _, _, ds, z1⟩, e0', e1', h3, h4⟩
      · simp only [List.cons.injEq, and_true] at q0
        subst q0
        obtain ⟨ds, h3, h4⟩ := prs_open g0
        exact ⟨⟨_, _, _, ds, z1⟩, e0', e1', h3, h4⟩
    obtain ⟨zs, hzl, hz⟩ := list_of12 each
    refine ⟨zs, Nat.le_trans hl hm, ⟨hzl, Nat.le_trans hl hm, fun h0 => ?_, fun z hzm => ?_⟩, hl, hm⟩
    · obtain ⟨b, off, spot⟩ := a
      have hc0 := (hz 0 (zs[0]'(by omega)) (List.getElem?_eq_getElem (by omega))).1
      have hspot : spot = none := by
        have := World.cell?_spot hc0
        simpa [Addr.add] using this
      subst hspot
      refine ⟨b, off, rfl, ?_, fun i z hiz => ?_⟩
      · have := World.block_lt_of_cell? W _ hc0
        rwa [add_plain] at this
      · obtain ⟨d0, d1, _⟩ := hz i z hiz
        simp only [add_plain] at d0 d1
        exact ⟨d0, d1⟩
    · obtain ⟨i, hi⟩ := List.getElem?_of_mem hzm
      exact (hz i z hi).2.2
end Go.Proofs.YteheojiokbdgmaaGreatDoor

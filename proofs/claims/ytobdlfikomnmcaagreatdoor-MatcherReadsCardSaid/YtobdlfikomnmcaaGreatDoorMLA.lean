/- Layer 6: the first known answers. Layer 6: a slice of pairs that came in, opened; Few. -/
import Derived.Test.YtobdlfikomnmcaaGreatDoorML9
import Derived.Deep.SlicePairs
import Derived.Deep.RegionHeld3
import Derived.OpenShut
namespace Go.Proofs.YtobdlfikomnmcaaGreatDoor
open Go.RowKit Go.Lib

def setOf (w : World) (v : Value) (ds : List Pr) : Prop := Rd w 2 v ds.length (prc ds)
end Go.Proofs.YtobdlfikomnmcaaGreatDoor

namespace Go.Proofs.YtobdlfikomnmcaaGreatDoor
open Go.RowKit Go.Lib Go.Deep Go.ChangeShapes Go.WideShapes

/-- Pairs read from cells, the first ten. -/
def PrsAt (w : World) (ao : Option Addr) (len : Nat) (ds : List Pr) : Prop :=
  ds.length = min len 10 ∧ (0 < len → ∃ b off, ao = some ⟨b, off, none⟩ ∧ b < w.heap.size ∧ ∀ i x, ds[i]? = some x → w.cell? ⟨b, off + i * 2, none⟩ = some (.string (bs x.n)) ∧ w.cell? ⟨b, off + i * 2 + 1, none⟩ = some (.string (bs x.v)))
theorem PrsAt.below {w w' : World} {ao : Option Addr} {len : Nat} {ds : List Pr} (h : PrsAt w ao len ds) (b : Below w.heap.size w w') : PrsAt w' ao len ds := by
  refine ⟨h.1, fun h0 => ?_⟩
  obtain ⟨g, off, he, hg, hc⟩ := h.2 h0
  refine ⟨g, off, he, Nat.lt_of_lt_of_le hg b.size, fun i x hx => ?_⟩
  obtain ⟨c0, c1⟩ := hc i x hx
  exact ⟨(b.cell (p := ⟨g, off + i * 2, none⟩) hg).trans c0, (b.cell (p := ⟨g, off + i * 2 + 1, none⟩) hg).trans c1⟩

def listOf : Value → List UInt8 | .string s => s.data.toList | _ => []
theorem prs_open {H : Type} {enc : TypeId × Value → H} {W : World} {base : Nat} {spare : Nat → Bool} {held : Bool} {fuel : Nat} {ao : Option Addr} {len cap : Nat} {x : DataW H × List MemPlace}
    (h : DataW.trod enc Tryz.prog W base spare held fuel 49 [.slice ao len cap] = some x) : ∃ ds, len ≤ maxLen ∧ PrsAt W ao len ds := by
  rcases open_slice_pairs Tryz.underlying49 Tryz.underlying65 (by kernel_rfl) rfl rfl (by kernel_rfl) (by kernel_rfl) h with ⟨hcs, _⟩ | ⟨a, len', cap', m, n, V0, V1, D0, D1, P0, P1, hcs, hb, hl, hm, hmm, _, hi⟩
  · simp only [List.cons.injEq, Value.slice.injEq, and_true] at hcs
    obtain ⟨rfl, rfl, rfl⟩ := hcs
    exact ⟨[], Nat.zero_le _, by simp, fun h => absurd h (Nat.lt_irrefl 0)⟩
  · simp only [List.cons.injEq, Value.slice.injEq, and_true] at hcs
    obtain ⟨rfl, rfl, rfl⟩ := hcs
    have hlm : len ≤ m := by rw [hmm]; split <;> omega
    refine ⟨(List.range (min len 10)).map fun i => ⟨listOf (V0 i), listOf (V1 i)⟩, Nat.le_trans hl hm, by simp, fun h0 => ?_⟩
    obtain ⟨b, off, spot⟩ := a
    have hspot : spot = none := by
      have := World.cell?_spot (hi 0 (by omega)).1
      simpa [Addr.add] using this
    subst hspot
    have hc0 := (hi 0 (by omega)).1
    refine ⟨b, off, rfl, ?_, fun i x hik => ?_⟩
    · have := World.block_lt_of_cell? W _ hc0
      rwa [add_plain] at this
    · have hlt : i < min len 10 := by
        have := (List.getElem?_eq_some_iff.1 hik).1
        simpa using this
      obtain ⟨g0, g1, t0, t1⟩ := hi i (by omega)
      rw [add_plain] at g0 g1
      obtain ⟨s0, hs0, _, _⟩ := DataW.trod_string Tryz.underlying9 t0
      obtain ⟨s1, hs1, _, _⟩ := DataW.trod_string Tryz.underlying9 t1
      simp only [List.cons.injEq, and_true] at hs0 hs1
      simp only [List.getElem?_map, List.getElem?_range hlt, Option.map_some, Option.some.injEq] at hik
      subst hik
      rw [← Nat.add_assoc] at g1
      refine ⟨?_, ?_⟩
      · rw [g0, hs0]; rfl
      · rw [g1, hs1]; rfl

/-- 'append(v, x..)', in a region that draws its order. -/
theorem step_append_slB {P : Program} {ops : Array Oper} {o : Oper} {a : Act} {w : World} {K : Act → World → Prop} {Q : Exit → Act → World → Prop} {E : Prop} (hgd : o.guard = none) (s x : Operand) (t : TypeId)
    (ho : o.op = .call { callee := .builtin .append, args := #[s, x], argTypes := #[t, t] })
    (base : Nat) (e : TypeId) (i : TypeInfo) (z : Value) (size bytes : Nat) (ht : P.underlying t = some (.slice e)) (hi : P.info? e = some i) (hz : i.zero = some z)
    (hsize : i.size = size) (hby : i.bytes = bytes) (hzs : z.cells.size = size) (hsz : 0 < size)
    (v : Value) (n : Nat) (xs : List Value) (hs : a.eval s = v) (hown : Sl w base size v n xs)
    (ad : Addr) (m c : Nat) (news : List Value) (hx : a.eval x = .slice (some ad) m c) (hl : news.length = m * size) (hnews : ∀ j u, news[j]? = some u → w.cell? (ad.add j) = some u) (h1 : ∀ u ∈ news, u.oneCell' = true)
    (h63 : n + m ≤ maxLen) (hbytes : (n + m) * bytes ≤ 140737488355328) (hbase : base ≤ w.heap.size)
    (h : ∀ v' w', Ext base size w v n xs w' v' (n + m) (xs ++ news) → K (a.put o.dst v') w') :
    if Region.wanted o (yielded ops a.tmps) = true then Oper.wp P o a w K Q else E := by
  have hw : Region.wanted o (yielded ops a.tmps) = true := by simp [Region.wanted, hgd]
  rw [if_pos hw]
  obtain ⟨v', w', hr, h2⟩ := run_append_sl (P := P) w base t o.type e i z size bytes ht hi hz hsize hby hzs hsz v n xs hown ad m c news hl hnews h1 h63 hbytes hbase
  unfold Oper.wp execOp
  simp only [ho, resolve, invoke, builtin, Sem.run_bind, Sem.run_pure, Result.andThen_ok, List.map_toArray, List.map_cons, List.map_nil, hs, hx, hr]
  exact h v' w' h2

theorem cutB_bs (d : List UInt8) (n : Nat) : cutB (bs d) n = bs (d.take n) := by
  unfold cutB
  rw [bs_size]
  split
  · rw [extract_bs0]; rfl
  · rw [List.take_of_length_le (by omega)]
theorem cut42 (d : List UInt8) (w : World) : Calls Tryz.prog 4 #[.string (bs d), .int .i64 42] w fun e w' => e = .returned (.string (bs (d.take 42))) ∧ w = w' :=
  cut_is (bs d) (d.take 42) 42 42 rfl (cutB_bs d 42) w

/-- Pairs of short texts. -/
def f42 (ds : List Pr) : List Pr := ds.map fun x => ⟨x.n.take 42, x.v.take 42⟩
theorem f42_len (ds : List Pr) : (f42 ds).length = ds.length := by simp [f42]
theorem two_cells (w : World) (a b : Value) (t : TypeId) : ∀ j u, [a, b][j]? = some u → ((w.alloc (.cells #[a, b] t)).drew).cell? ((⟨w.heap.size, 0, none⟩ : Addr).add j) = some u := by
  intro j u hu
  have := (Sl.lit w w.heap.size 2 1 #[a, b] t (Nat.le_refl _) (by decide) rfl).cells j u hu
  exact this

end Go.Proofs.YtobdlfikomnmcaaGreatDoor

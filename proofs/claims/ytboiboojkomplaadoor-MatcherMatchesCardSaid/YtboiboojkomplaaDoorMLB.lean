/- Layer 6: a slice of pairs that came in, opened; Few. -/
import Derived.Test.YtboiboojkomplaaDoorMLA
import Derived.Deep.SlicePairs
import Derived.Deep.RegionHeld3
import Derived.OpenShut
namespace Go.Proofs.YtboiboojkomplaaDoor
open Go.RowKit Go.Lib Go.Deep Go.ChangeShapes Go.WideShapes

/-- Pairs read from cells, the first ten. -/
def PrsAt (w : World) (ao : Option Addr) (len : Nat) (ds : List Pr) : Prop :=
  ds.length = min len 10 ∧ (0 < len → ∃ b off, ao = some ⟨b, off, none⟩ ∧ b < w.heap.size ∧ ∀ i x, ds[i]? = some x → w.cell? ⟨b, off + i * 2, none⟩ = some (.string (bs x.n)) ∧ w.cell? ⟨b, off + i * 2 + 1, none⟩ = some (.string (bs x.v)))
theorem PrsAt.below {w w' : World} {ao : Option Addr} {len : Nat} {ds : List Pr} (h : PrsAt w ao len ds) (b : Below w.heap.size w w') : PrsAt w' ao len ds := by
  refine ⟨h.1, fun h0 => ?_⟩
  obtain ⟨g, off, he, hg, hc⟩ := h.2 h0
  refine ⟨g, off, he, Nat.lt_of_lt_of_le hg b.size, fun i x hx => ?_⟩
  obtain ⟨c0, c1⟩ := hc i x hx
  exact ⟨(b.cell (p := ⟨g, off + i * 2, none⟩) hg).trans c0, (b.cell (p := ⟨g, off + i * 2 + 1, none⟩) hg).trans c1⟩

def listOf : Value → List UInt8 | .string s => s.data.toList | _ => []
theorem prs_open {H : Type} {enc : TypeId × Value → H} {W : World} {base : Nat} {spare : Nat → Bool} {held : Bool} {fuel : Nat} {ao : Option Addr} {len cap : Nat} {x : DataW H × List MemPlace}
    (h : DataW.trod enc Tryd.prog W base spare held fuel 22 [.slice ao len cap] = some x) : ∃ ds, len ≤ maxLen ∧ PrsAt W ao len ds := by
  rcases open_slice_pairs Tryd.underlying22 Tryd.underlying51 (by kernel_rfl) rfl rfl (by kernel_rfl) (by kernel_rfl) h with ⟨hcs, _⟩ | ⟨a, len', cap', m, n, V0, V1, D0, D1, P0, P1, hcs, hb, hl, hm, hmm, _, hi⟩
  · simp only [List.cons.injEq, Value.slice.injEq, and_true] at hcs
    obtain ⟨rfl, rfl, rfl⟩ := hcs
    exact ⟨[], Nat.zero_le _, by simp, fun h => absurd h (Nat.lt_irrefl 0)⟩
  · simp only [List.cons.injEq, Value.slice.injEq, and_true] at hcs
    obtain ⟨rfl, rfl, rfl⟩ := hcs
    have hlm : len ≤ m := by rw [hmm]; split <;> omega
    refine ⟨(List.range (min len 10)).map fun i => ⟨listOf (V0 i), listOf (V1 i)⟩, Nat.le_trans hl hm, by simp, fun h0 => ?_⟩
    obtain ⟨b, off, spot⟩ := a
    have hspot : spot = none := by
      have := World.cell?_spot (hi 0 (by omega)).1
      simpa [Addr.add] using this
    subst hspot
    have hc0 := (hi 0 (by omega)).1
    refine ⟨b, off, rfl, ?_, fun i x hik => ?_⟩
    · have := World.block_lt_of_cell? W _ hc0
      rwa [add_plain] at this
    · have hlt : i < min len 10 := by
        have := (List.getElem?_eq_some_iff.1 hik).1
        simpa using this
      obtain ⟨g0, g1, t0, t1⟩ := hi i (by omega)
      rw [add_plain] at g0 g1
      obtain ⟨s0, hs0, _, _⟩ := DataW.trod_string Tryd.underlying9 t0
      obtain ⟨s1, hs1, _, _⟩ := DataW.trod_string Tryd.underlying9 t1
      simp only [List.cons.injEq, and_true] at hs0 hs1
      simp only [List.getElem?_map, List.getElem?_range hlt, Option.map_some, Option.some.injEq] at hik
      subst hik
      rw [← Nat.add_assoc] at g1
      refine ⟨?_, ?_⟩
      · rw [g0, hs0]; rfl
      · rw [g1, hs1]; rfl

/-- 'append(v, x..)', in a region that draws its order. -/
theorem step_append_sl {P : Program} {ops : Array Oper} {o : Oper} {a : Act} {w : World} {K : Act → World → Prop} {Q : Exit → Act → World → Prop} {E : Prop} (hgd : o.guard = none) (s x : Operand) (t : TypeId)
    (ho : o.op = .call { callee := .builtin .append, args := #[s, x], argTypes := #[t, t] })
    (base : Nat) (e : TypeId) (i : TypeInfo) (z : Value) (size bytes : Nat) (ht : P.underlying t = some (.slice e)) (hi : P.info? e = some i) (hz : i.zero = some z)
    (hsize : i.size = size) (hby : i.bytes = bytes) (hzs : z.cells.size = size) (hsz : 0 < size)
    (v : Value) (n : Nat) (xs : List Value) (hs : a.eval s = v) (hown : Sl w base size v n xs)
    (ad : Addr) (m c : Nat) (news : List Value) (hx : a.eval x = .slice (some ad) m c) (hl : news.length = m * size) (hnews : ∀ j u, news[j]? = some u → w.cell? (ad.add j) = some u) (h1 : ∀ u ∈ news, u.oneCell' = true)
    (h63 : n + m ≤ maxLen) (hbytes : (n + m) * bytes ≤ 140737488355328) (hbase : base ≤ w.heap.size)
    (h : ∀ v' w', Ext base size w v n xs w' v' (n + m) (xs ++ news) → K (a.put o.dst v') w') :
    if Region.wanted o (yielded ops a.tmps) = true then Oper.wp P o a w K Q else E := by
  have hw : Region.wanted o (yielded ops a.tmps) = true := by simp [Region.wanted, hgd]
  rw [if_pos hw]
  obtain ⟨v', w', hr, h2⟩ := run_append_sl (P := P) w base t o.type e i z size bytes ht hi hz hsize hby hzs hsz v n xs hown ad m c news hl hnews h1 h63 hbytes hbase
  unfold Oper.wp execOp
  simp only [ho, resolve, invoke, builtin, Sem.run_bind, Sem.run_pure, Result.andThen_ok, List.map_toArray, List.map_cons, List.map_nil, hs, hx, hr]
  exact h v' w' h2

theorem cutB_bs (d : List UInt8) (n : Nat) : cutB (bs d) n = bs (d.take n) := by
  unfold cutB
  rw [bs_size]
  split
  · rw [extract_bs0]; rfl
  · rw [List.take_of_length_le (by omega)]
theorem cut42 (d : List UInt8) (w : World) : Calls Tryd.prog 5 #[.string (bs d), .int .i64 42] w fun e w' => e = .returned (.string (bs (d.take 42))) ∧ w = w' :=
  cut_is (bs d) (d.take 42) 42 42 rfl (cutB_bs d 42) w

/-- Pairs of short texts. -/
def f42 (ds : List Pr) : List Pr := ds.map fun x => ⟨x.n.take 42, x.v.take 42⟩
theorem f42_len (ds : List Pr) : (f42 ds).length = ds.length := by simp [f42]
theorem two_cells (w : World) (a b : Value) (t : TypeId) : ∀ j u, [a, b][j]? = some u → ((w.alloc (.cells #[a, b] t)).drew).cell? ((⟨w.heap.size, 0, none⟩ : Addr).add j) = some u := by
  intro j u hu
  have := (Sl.lit w w.heap.size 2 1 #[a, b] t (Nat.le_refl _) (by decide) rfl).cells j u hu
  exact this

set_option maxHeartbeats 2000000 in
set_option maxRecDepth 100000 in
theorem few_any (ao : Option Addr) (len cap : Nat) (ds : List Pr) (w : World) (hlen : len ≤ maxLen) (h : PrsAt w ao len ds) :
    Calls Tryd.prog 7 #[.slice ao len cap] w (NewP w (f42 ds)) := by
  obtain ⟨i0, hi, hz0, hz1, hz2⟩ := info_parts zc_pair
  have Hz := Lib.hid hz0; have Hs := Lib.hid hz1; have Hb := Lib.hid hz2; have Hi := Lib.hid hi
  clear hz0 hz1 hz2 hi
  obtain ⟨hrl, hcells⟩ := h
  unfold maxLen at hlen
  have hrl1 : ds.length ≤ len := by omega
  have hrl2 : ds.length ≤ 10 := by omega
  have hrl3 : len ≤ ds.length ∨ 10 ≤ ds.length := by omega
  clear hrl
  go_enter Tryd.func7, Tryd.ntmps7
  go_wp2
  go_loopw [3, 4] (fun o' i' wr => ∃ (k : Nat), i' = .int .i64 k ∧ k ≤ ds.length ∧ Sl wr w.heap.size 2 o' k (prc (f42 (ds.take k))) ∧ Below w.heap.size w wr) (fun _ i' _ => ds.length - (intOf i').toNat)
  case atStart => exact ⟨0, rfl, Nat.zero_le _, Sl.lit w w.heap.size 2 0 #[] _ (Nat.le_refl _) (by decide) rfl, (Below.refl _ _).alloc (Nat.le_refl _) _⟩
  case round =>
    obtain ⟨k, rfl, hk, hown, hbel⟩ := hrel
    by_cases hlt : k < ds.length
    · have h1 : k < len := by omega
      have h2 : k < 10 := by omega
      obtain ⟨b, off, hao, hb, hc⟩ := hcells (by omega)
      obtain ⟨x, hx⟩ : ∃ x, ds[k]? = some x := ⟨_, List.getElem?_eq_getElem hlt⟩
      obtain ⟨c0, c1⟩ := hc k x hx
      have hbw := hbel.size
      have p0 : wr.cell? ⟨b, off + k * 2, none⟩ = some (.string (bs x.n)) := (hbel.cell (p := ⟨b, off + k * 2, none⟩) hb).trans c0
      have p1 : wr.cell? ⟨b, off + k * 2 + 1, none⟩ = some (.string (bs x.v)) := (hbel.cell (p := ⟨b, off + k * 2 + 1, none⟩) hb).trans c1
      have HK := Lib.hid hx
      subst hao
      clear hc c0 c1 hx
      go_wp2
      have hbd := hbel.drew
      have i1 : (k : Int) < (len : Int) := by omega
      have i2 : (0 : Int) ≤ (k : Int) := by omega
      have hbr : b < wr.heap.size := by omega
      have q : ∀ o, (wr.alloc o).drew.cell? ⟨b, off + k * 2, none⟩ = some (.string (bs x.n)) ∧ (wr.alloc o).drew.cell? ⟨b, off + k * 2 + 1, none⟩ = some (.string (bs x.v)) := fun o =>
        ⟨(((Below.refl wr.heap.size wr).alloc (Nat.le_refl _) o).drew.cell (p := ⟨b, off + k * 2, none⟩) hbr).trans p0, (((Below.refl wr.heap.size wr).alloc (Nat.le_refl _) o).drew.cell (p := ⟨b, off + k * 2 + 1, none⟩) hbr).trans p1⟩
      go_region_held3 (fun w' => w'.cell? ⟨b, off + k * 2, none⟩ = some (.string (bs x.n)) ∧ w'.cell? ⟨b, off + k * 2 + 1, none⟩ = some (.string (bs x.v)))
        (first | exact ⟨p0, p1⟩ | exact q _ | assumption)
        (first
          | (go_at_call 5; refine (cut42 _ _).mono ?_; rintro e w1 ⟨rfl, rfl⟩)
          | (refine step_append_sl rfl (.tmp 16) (.tmp 30) 22 rfl w.heap.size 51 i0 _ 2 32 Tryd.underlying22 Hi.out Hz.out Hs.out Hb.out rfl (by decide) u3 k (prc (f42 (ds.take k))) (by simp [Act.eval]) (hown.alloc _).drew ⟨wr.heap.size, 0, none⟩ 1 1 [.string (bs (x.n.take 42)), .string (bs (x.v.take 42))] (by simp [Act.eval]) rfl (two_cells _ _ _ _) (by simp [Value.oneCell']) (by unfold maxLen; omega) (by omega) (by simp; omega) ?_; intro v2 w2 x2; have hb2 : Below w.heap.size w w2 := ((hbel.alloc hbw _).drew).trans (x2.below (Nat.le_refl _) (by simp; omega)); have r0 : w2.cell? ⟨b, off + k * 2, none⟩ = some (.string (bs x.n)) ∧ w2.cell? ⟨b, off + k * 2 + 1, none⟩ = some (.string (bs x.v)) := ⟨(hb2.cell (p := ⟨b, off + k * 2, none⟩) hb).trans ((hbel.cell (p := ⟨b, off + k * 2, none⟩) hb).symm.trans p0), (hb2.cell (p := ⟨b, off + k * 2 + 1, none⟩) hb).trans ((hbel.cell (p := ⟨b, off + k * 2 + 1, none⟩) hb).symm.trans p1)⟩))
      go_wp2
      have ht : ds.take (k + 1) = ds.take k ++ [x] := by
        have := HK.out
        rw [List.take_add_one, this]; rfl
      refine ⟨⟨k + 1, by go_num, by omega, ?_, hb2⟩, by simp [intOf]; omega⟩
      rw [ht, f42, List.map_append, prc_append]
      exact x2.now
    · have hv := hown
      have hkk : k = ds.length := by omega
      subst hkk
      rw [List.take_length] at hv
      obtain ⟨a, c, he⟩ := hv.slice
      rw [he] at hv
      have HE := Lib.hid he
      have HV := Lib.hid hv
      clear he hv
      go_wp2
      all_goals
        go_ret
        refine ⟨_, rfl, ?_, hbel⟩
        rw [f42_len]
        have h3 := HV.out
        rw [← HE.out] at h3
        exact h3
end Go.Proofs.YtboiboojkomplaaDoor

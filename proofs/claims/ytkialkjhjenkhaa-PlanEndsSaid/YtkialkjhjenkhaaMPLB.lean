/- Layer 20: free blocks sorted, by the shelf's contract. Layer 20: what some blocks have together. -/
import Derived.Test.YtkialkjhjenkhaaMPL9
namespace Go.Proofs.Ytkialkjhjenkhaa
open Go.RowKit Go.Lib
set_option linter.unusedVariables false

/-- A meta and where its lists are, as slices. -/
structure Mz where
  m : Mt.Me
  af : Option Addr
  kf : Nat
  a3 : Option Addr
  ks : Nat
instance : Inhabited Mz := ⟨⟨⟨[], 0, 0, 0, 0, 0, [], []⟩, none, 0, none, 0⟩⟩
def Mz.q (z : Mz) : Mq := ⟨z.m, .slice z.af z.m.files.length z.kf, .slice z.a3 z.m.src.length z.ks⟩
def encZ (z : Mz) : List Value := [.string (bs z.m.id), .int .i64 z.m.mn, .int .i64 z.m.mx, .int .i64 z.m.lv, .int .i64 z.m.se, .int .i64 z.m.sa, .slice z.af z.m.files.length z.kf, .slice z.a3 z.m.src.length z.ks]
def zcs (ds : List Mz) : List Value := ds.flatMap encZ
theorem zcs_msc (ds : List Mz) : zcs ds = msc (ds.map Mz.q) := by
  induction ds with
  | nil => rfl
  | cons x ds ih => simp only [zcs, msc, List.flatMap_cons, List.map_cons] at *; rw [ih]; rfl
theorem zc_length (ds : List Mz) : (zcs ds).length = ds.length * 8 := by rw [zcs_msc, msc_length, List.length_map]
theorem zc_get : ∀ (ds : List Mz) (t : Nat), t < ds.length * 8 → (zcs ds)[t]? = some ((encZ (ds.toArray[t / 8]!))[t % 8]!)
  | [], t, h => by simp at h
  | x :: ds, t, h => by
    have e0 : zcs (x :: ds) = encZ x ++ zcs ds := by simp [zcs]
    rw [e0]
    by_cases ht : t < 8
    · have h0 : t / 8 = 0 := by omega
      have h1 : t % 8 = t := by omega
      rw [h0, h1, List.getElem?_append_left (by simpa [encZ] using ht)]
      have : t = 0 ∨ t = 1 ∨ t = 2 ∨ t = 3 ∨ t = 4 ∨ t = 5 ∨ t = 6 ∨ t = 7 := by omega
      rcases this with rfl | rfl | rfl | rfl | rfl | rfl | rfl | rfl <;> rfl
    · obtain ⟨u, rfl⟩ : ∃ u, t = u + 8 := ⟨t - 8, by omega⟩
      have h0 : (u + 8) / 8 = u / 8 + 1 := by omega
      have h1 : (u + 8) % 8 = u % 8 := by omega
      have hl : (encZ x).length = 8 := rfl
      rw [h0, h1, List.getElem?_append_right (by omega), hl, Nat.add_sub_cancel, zc_get ds u (by simp at h; omega)]
      simp
def cfZ (x y : Mz) : Int := cfM x.q y.q
def ltM (x y : Mt.Me) : Prop := x.mn < y.mn ∨ x.mn = y.mn ∧ x.id < y.id
theorem cfZ_lt (x y : Mz) : cfZ x y < 0 ↔ ltM x.m y.m := by
  unfold cfZ cfM orI cmpI ltM Mz.q
  simp only
  by_cases h1 : x.m.mn < y.m.mn
  · simp [h1]
  · by_cases h2 : y.m.mn < x.m.mn
    · simp only [if_neg h1, if_pos h2]
      simp
      omega
    · have : x.m.mn = y.m.mn := by omega
      simp [this, cmp_lt]
theorem ltM_irrefl (x : Mt.Me) : ¬ ltM x x := by rintro (h | ⟨_, h⟩); · omega
                                                 · exact bytes_lt_irrefl _ h
theorem ltM_trans {x y z : Mt.Me} (h : ltM x y) (k : ltM y z) : ltM x z := by
  rcases h with h | ⟨h1, h2⟩ <;> rcases k with k | ⟨k1, k2⟩
  · exact .inl (by omega)
  · exact .inl (by omega)
  · exact .inl (by omega)
  · exact .inr ⟨by omega, bytes_lt_trans h2 k2⟩
theorem ltM_ntrans {x y z : Mt.Me} (h : ¬ ltM x y) (k : ¬ ltM y z) : ¬ ltM x z := by
  unfold ltM at *
  intro hz
  have h1 : ¬ x.mn < y.mn := fun e => h (.inl e)
  have k1 : ¬ y.mn < z.mn := fun e => k (.inl e)
  rcases hz with e | ⟨e, e2⟩
  · omega
  · have hx : x.mn = y.mn := by omega
    have hy : y.mn = z.mn := by omega
    have h2 : ¬ x.id < y.id := fun e => h (.inr ⟨hx, e⟩)
    have k2 : ¬ y.id < z.id := fun e => k (.inr ⟨hy, e⟩)
    rcases bytes_not_lt h2 with e3 | e3
    · exact k2 (e3 ▸ e2)
    · exact k2 (bytes_lt_trans e3 e2)
theorem swoZ : Sort.SWO fun x y : Mz => decide (cfZ x y < 0) where
  irrefl x := by rw [decide_eq_false_iff_not, cfZ_lt]; exact ltM_irrefl _
  trans x y z h k := by rw [decide_eq_true_iff, cfZ_lt] at *; exact ltM_trans h k
  ntrans x y z h k := by rw [decide_eq_false_iff_not, cfZ_lt] at *; exact ltM_ntrans h k
theorem cmpZ (blk off size : Nat) (w : World) : CmpLays Try.prog 41 #[] encZ 8 cfZ blk off size w :=
  fun _ _ _ _ x y => free1_any x.q y.q _
theorem perm_of_in {α : Type} [Inhabited α] {d d' : Array α} (h : Sort.PermIn 0 d.size d d') : d'.toList.Perm d.toList := by
  obtain ⟨h1, _, h3⟩ := h
  have e1 : d'.extract 0 d.size = d' := by rw [← h1]; exact Array.extract_size
  have e2 : d.extract 0 d.size = d := Array.extract_size
  rw [e1, e2] at h3
  exact h3

set_option maxHeartbeats 2000000 in
theorem sort_ms (v : Value) (ds : List Mz) (base : Nat) (w : World) (hs : Sl w base 8 v ds.length (zcs ds)) (hlen : ds.length ≤ 1000) (h0 : ds ≠ []) :
    Calls Try.prog 40 #[v, .func (.func 41) #[] #[]] w fun e w' => e = .returned (.tuple #[]) ∧
      ∃ ds' : List Mz, ds'.Perm ds ∧ ds'.Pairwise (fun x y => ¬ ltM y.m x.m) ∧ Sl w' base 8 v ds.length (zcs ds') ∧ Turn (fun k => v.ownBlock = some k) w w' := by
  rcases hs.2 with ⟨rfl, h1⟩ | ⟨g, off, cap, rfl, hb, hg, hnc, hcm, hfree, hcell⟩
  · exact absurd (List.eq_nil_of_length_eq_zero h1) h0
  · have hH : Sort.HoldsK encZ 8 w g off ds.toArray := by
      intro t ht
      have ht' : t < ds.length * 8 := by simpa using ht
      have hc8 : ds.length * 8 ≤ cap * 8 := Nat.mul_le_mul_right _ hnc
      refine ⟨?_, (hfree t (by omega)).2⟩
      rw [hcell t ht', zc_get ds t ht', Sort.get_flatK _ _ _ _ (by simpa using ht)]
      rfl
    have eg : ∀ args w, (callFunc 41 args).run Try.prog w = .ok (.enter 41 args) w := enters_of Try.func41 (by kernel_rfl) rfl
    refine (AnyQ.slices_SortFunc sortMeta 8 Try.isAgg53 Try.sizeOf53 encZ (fun _ => rfl) (fun x v hv => by simp [encZ] at hv; rcases hv with rfl | rfl | rfl | rfl | rfl | rfl | rfl | rfl <;> rfl) cfZ swoZ 41 #[] g off cap ds.toArray w eg (cmpZ g off _ w) hH hg (by simp; omega)).mono ?_
    rintro e w' ⟨rfl, d', n, os, hp, hso, rfl⟩
    have hds : d'.size = ds.length := by have := hp.1; simpa using this
    have hg' : g < (Sort.putRow id (Sort.ahead w n) g off (Sort.flatK encZ 8 d')).heap.size := by simpa using hg
    have hcells : ∀ t, t < ds.length * 8 → (sortWorldK encZ 8 w g off n d' os).cell? ⟨g, off + t, none⟩ = some ((encZ (d'[t / 8]!))[t % 8]!) := fun t ht => by
      unfold sortWorldK Sort.putRowK
      rw [Sort.cell?_grow _ _ _ hg']
      have := Sort.cell?_putRow id (Sort.ahead w n) g off (Sort.flatK encZ 8 ds.toArray) (Sort.flatK encZ 8 d') hH (by simp [hds]) t (by simp; omega)
      rw [this, Sort.get_flatK _ _ _ _ (by rw [hds]; exact ht)]
      rfl
    refine ⟨rfl, d'.toList, perm_of_in hp, ?_, ⟨by rw [zc_length]; simp [hds], .inr ⟨g, off, cap, rfl, hb, by unfold sortWorldK Sort.putRowK; simp; omega, hnc, hcm, fun j hj => ⟨?_, ?_⟩, fun j hj => ?_⟩⟩, rfl, rfl, rfl, by unfold sortWorldK Sort.putRowK; simp, fun k hk hne => ?_⟩
    · rw [List.pairwise_iff_getElem]
      intro i j hi hj hij
      have h := hso i j (Nat.zero_le _) hij (by simp [hds] at hj ⊢; exact hj)
      unfold ltOf at h
      rw [decide_eq_false_iff_not, cfZ_lt] at h
      have e1 : d'[i]! = d'.toList[i] := by simp [hds] at hi; simp [hds, hi]
      have e2 : d'[j]! = d'.toList[j] := by simp [hds] at hj; simp [hds, hj]
      rw [e1, e2] at h
      exact h
    · by_cases hjt : j < ds.length * 8
      · rw [hcells j hjt]; rfl
      · unfold sortWorldK Sort.putRowK
        rw [Sort.cell?_grow _ _ _ hg', Sort.cell?_putRow_other _ _ _ _ _ _ (.inr (.inr (by simp; omega)))]
        exact (hfree j hj).1
    · unfold sortWorldK Sort.putRowK
      rw [Sort.frozen?_grow _ _ _ hg', Sort.frozen?_putRow]
      exact (hfree j hj).2
    · rw [hcells j hj, zc_get d'.toList j (by simpa [hds] using hj)]
    · unfold sortWorldK Sort.putRowK
      rw [Sort.heap_grow_old _ _ (by simpa using hk)]
      have hgk : g ≠ k := fun e => hne (by rw [e]; rfl)
      simp [Sort.putRow, Sort.mapBlock, Sort.ahead, Array.getElem?_modify, hgk]
end Go.Proofs.Ytkialkjhjenkhaa

namespace Go.Proofs.Ytkialkjhjenkhaa
open Go.RowKit Go.Lib
set_option linter.unusedVariables false

/-- What some blocks have together. -/
structure Tot where
  b : Int
  y : Int
  s : Int
  a : Int
def Tot.fits (t : Tot) : Bool := decide (t.b ≤ 20) && decide (t.y ≤ 262144) && decide (t.s ≤ 10000) && decide (t.a ≤ 40000)
def totV (t : Tot) : Value := .agg #[.int .i64 t.b, .int .i64 t.y, .int .i64 t.s, .int .i64 t.a]
set_option maxHeartbeats 1000000 in
set_option maxRecDepth 100000 in
theorem fits_any (t : Tot) (w : World) : Calls Try.prog 45 #[totV t] w fun e w' => e = .returned (.bool t.fits) ∧ Below w.heap.size w w' := by
  obtain ⟨b, y, s, a⟩ := t
  unfold totV
  have HK := Lib.hid (show Tot.fits ⟨b, y, s, a⟩ = (decide (b ≤ 20) && decide (y ≤ 262144) && decide (s ≤ 10000) && decide (a ≤ 40000)) from rfl)
  rw [HK.out]
  cases h1 : decide (b ≤ 20)
  · go_enter Try.func45, Try.ntmps45
    go_wp2
    go_ret
    exact ⟨rfl, (Below.refl _ _).alloc (Nat.le_refl _) _⟩
  · cases h2 : decide (y ≤ 262144)
    · go_enter Try.func45, Try.ntmps45
      go_wp2
      go_ret
      exact ⟨rfl, (Below.refl _ _).alloc (Nat.le_refl _) _⟩
    · cases h3 : decide (s ≤ 10000)
      · go_enter Try.func45, Try.ntmps45
        go_wp2
        go_ret
        exact ⟨rfl, (Below.refl _ _).alloc (Nat.le_refl _) _⟩
      · have HE := Lib.hid (show (true && true && true && decide (a ≤ 40000)) = decide (a ≤ 40000) from rfl)
        rw [HE.out]
        go_enter Try.func45, Try.ntmps45
        go_wp2
        go_ret
        exact ⟨rfl, (Below.refl _ _).alloc (Nat.le_refl _) _⟩
end Go.Proofs.Ytkialkjhjenkhaa

/- Layer 5's buckets: the sort of what Look tells. -/
import Derived.Test.YtfjihookoilnnaaG4
import Derived.Test.YtfjihookoilnnaaCmp
import Derived.Test.YtfjihookoilnnaaSrtG
namespace Go.Proofs.Ytfjihookoilnnaa
open Go.Conc Go.RowKit

/-- What is told of an object. -/
structure Inf where
  name : ByteArray
  size : Nat
  tm : Int
instance : Inhabited Inf := ⟨⟨ByteArray.empty, 0, 0⟩⟩
def encInf (x : Inf) : List Value := [.string x.name, .int .i64 x.size, .int .i64 x.tm]
def infc (ds : List Inf) : List Value := ds.flatMap encInf
theorem infc_length (ds : List Inf) : (infc ds).length = ds.length * 3 := by
  induction ds with
  | nil => rfl
  | cons x ds ih => simp only [infc, List.flatMap_cons, List.length_append, List.length_cons, encInf, List.length_nil] at *; omega
theorem infc_append (a b : List Inf) : infc (a ++ b) = infc a ++ infc b := by simp [infc]
theorem infc_cons (a : Inf) (b : List Inf) : infc (a :: b) = encInf a ++ infc b := by simp [infc]
theorem infc_get : ∀ (ds : List Inf) (t : Nat), t < ds.length * 3 → (infc ds)[t]? = some ((encInf (ds.toArray[t / 3]!))[t % 3]!)
  | [], t, h => by simp at h
  | x :: ds, t, h => by
    rw [infc_cons]
    by_cases ht : t < 3
    · have h0 : t / 3 = 0 := by omega
      have h1 : t % 3 = t := by omega
      rw [h0, h1, List.getElem?_append_left (by simpa [encInf] using ht)]
      have : t = 0 ∨ t = 1 ∨ t = 2 := by omega
      rcases this with rfl | rfl | rfl <;> rfl
    · obtain ⟨u, rfl⟩ : ∃ u, t = u + 3 := ⟨t - 3, by omega⟩
      have h0 : (u + 3) / 3 = u / 3 + 1 := by omega
      have h1 : (u + 3) % 3 = u % 3 := by omega
      have hl : (encInf x).length = 3 := rfl
      rw [h0, h1, List.getElem?_append_right (by omega), hl, Nat.add_sub_cancel, infc_get ds u (by simp at h; omega)]
      simp

/-- Names compared. -/
def cfInf (x y : Inf) : Int := Lib.compareBytes x.name.data.toList y.name.data.toList
set_option maxHeartbeats 1000000 in
theorem look1_any (x y : Inf) (W : World) : Calls Try.prog 49 #[.agg #[.string x.name, .int .i64 x.size, .int .i64 x.tm], .agg #[.string y.name, .int .i64 y.size, .int .i64 y.tm]] W fun e w' => e = .returned (.int .i64 (cfInf x y)) ∧ ∃ q os', w' = Sort.grow (W.drewN q) os' := by
  have hcon := fun W' => Any.strings_Compare cmpStr x.name y.name W'
  change ∀ W', Calls Try.prog 50 _ _ _ at hcon
  unfold cfInf
  generalize Lib.compareBytes x.name.data.toList y.name.data.toList = r at hcon ⊢
  go_enter Try.func49, Try.ntmps49
  go_wp2_with (go_at_call 50; refine (hcon _).mono ?_; rintro e w' ⟨rfl, rfl⟩)
  go_ret
  exact ⟨rfl, 0, _, by rw [Sort.alloc_eq_grow, Sort.alloc_eq_grow, Sort.grow_grow]; rfl⟩
theorem cmpInf (blk off size : Nat) (w : World) : CmpLays Try.prog 49 #[] encInf 3 cfInf blk off size w :=
  fun _ _ _ _ x y => look1_any x y _

theorem perm_of_in {α : Type} [Inhabited α] {d d' : Array α} (h : Sort.PermIn 0 d.size d d') : d'.toList.Perm d.toList := by
  obtain ⟨h1, _, h3⟩ := h
  have e1 : d'.extract 0 d.size = d' := by rw [← h1]; exact Array.extract_size
  have e2 : d.extract 0 d.size = d := Array.extract_size
  rw [e1, e2] at h3
  exact h3

set_option maxHeartbeats 1000000 in
/-- What is told, sorted where it lies. -/
theorem sort_inf (v : Value) (ds : List Inf) (base : Nat) (w : World) (hs : Sl w base 3 v ds.length (infc ds)) (hlen : ds.length ≤ 1000) :
    Calls Try.prog 48 #[v, .func (.func 49) #[] #[]] w fun e w' => e = .returned (.tuple #[]) ∧
      ∃ ds' : List Inf, ds'.Perm ds ∧ ds'.Pairwise (fun x y => ¬ y.name.data.toList < x.name.data.toList) ∧ Sl w' base 3 v ds.length (infc ds') ∧ Turn (fun k => v.ownBlock = some k) w w' := by
  rcases hs.2 with ⟨rfl, h0⟩ | ⟨g, off, cap, rfl, hb, hg, hnc, hcm, hfree, hcell⟩
  · have hnil : ds = [] := List.eq_nil_of_length_eq_zero h0
    subst hnil
    refine (AnyF.slices_SortFunc_none { sortInfo with } none 0 _ w).mono ?_
    rintro e w' ⟨rfl, rfl⟩
    exact ⟨rfl, [], List.Perm.refl _, List.Pairwise.nil, hs, Turn.refl _ _⟩
  · have hH : Sort.HoldsK encInf 3 w g off ds.toArray := by
      intro t ht
      have ht' : t < ds.length * 3 := by simpa using ht
      have hc3 : ds.length * 3 ≤ cap * 3 := Nat.mul_le_mul_right _ hnc
      refine ⟨?_, (hfree t (by omega)).2⟩
      rw [hcell t ht', infc_get ds t ht', Sort.get_flatK _ _ _ _ (by simpa using ht)]
      rfl
    have eg : ∀ args w, (callFunc 49 args).run Try.prog w = .ok (.enter 49 args) w := enters_of Try.func49 (by kernel_rfl) rfl
    refine (AnyQ.slices_SortFunc sortInfo 3 Try.isAgg55 Try.sizeOf55 encInf (fun _ => rfl) (fun x v hv => by simp [encInf] at hv; rcases hv with rfl | rfl | rfl <;> rfl) cfInf (swo_by fun x : Inf => x.name.data.toList) 49 #[] g off cap ds.toArray w eg (cmpInf g off _ w) hH hg (by simp; omega)).mono ?_
    rintro e w' ⟨rfl, d', n, os, hp, hso, rfl⟩
    have hds : d'.size = ds.length := by have := hp.1; simpa using this
    have hg' : g < (Sort.putRow id (Sort.ahead w n) g off (Sort.flatK encInf 3 d')).heap.size := by simpa using hg
    have hcells : ∀ t, t < ds.length * 3 → (sortWorldK encInf 3 w g off n d' os).cell? ⟨g, off + t, none⟩ = some ((encInf (d'[t / 3]!))[t % 3]!) := fun t ht => by
      unfold sortWorldK Sort.putRowK
      rw [Sort.cell?_grow _ _ _ hg']
      have := Sort.cell?_putRow id (Sort.ahead w n) g off (Sort.flatK encInf 3 ds.toArray) (Sort.flatK encInf 3 d') hH (by simp [hds]) t (by simp; omega)
      rw [this, Sort.get_flatK _ _ _ _ (by rw [hds]; exact ht)]
      rfl
    refine ⟨rfl, d'.toList, perm_of_in hp, ?_, ⟨by rw [infc_length]; simp [hds], .inr ⟨g, off, cap, rfl, hb, by unfold sortWorldK Sort.putRowK; simp; omega, hnc, hcm, fun j hj => ⟨?_, ?_⟩, fun j hj => ?_⟩⟩, rfl, rfl, rfl, by unfold sortWorldK Sort.putRowK; simp, fun k hk hne => ?_⟩
    · rw [List.pairwise_iff_getElem]
      intro i j hi hj hij
      have h := hso i j (Nat.zero_le _) hij (by simp [hds] at hj ⊢; exact hj)
      unfold ltOf cfInf at h
      rw [decide_eq_false_iff_not, cmp_lt] at h
      have e1 : d'[i]! = d'.toList[i] := by simp [hds] at hi; simp [hds, hi]
      have e2 : d'[j]! = d'.toList[j] := by simp [hds] at hj; simp [hds, hj]
      rw [e1, e2] at h
      exact h
    · by_cases hjt : j < ds.length * 3
      · rw [hcells j hjt]; rfl
      · unfold sortWorldK Sort.putRowK
        rw [Sort.cell?_grow _ _ _ hg', Sort.cell?_putRow_other _ _ _ _ _ _ (.inr (.inr (by simp; omega)))]
        exact (hfree j hj).1
    · unfold sortWorldK Sort.putRowK
      rw [Sort.frozen?_grow _ _ _ hg', Sort.frozen?_putRow]
      exact (hfree j hj).2
    · rw [hcells j hj, infc_get d'.toList j (by simpa [hds] using hj)]
    · unfold sortWorldK Sort.putRowK
      rw [Sort.heap_grow_old _ _ (by simpa using hk)]
      have hgk : g ≠ k := fun e => hne (by rw [e]; rfl)
      simp [Sort.putRow, Sort.mapBlock, Sort.ahead, Array.getElem?_modify, hgk]
end Go.Proofs.Ytfjihookoilnnaa

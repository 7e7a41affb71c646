/- Layer 6: pairs sorted where they lie. -/
import Derived.Test.YtobdlfikomnmcaaGreatDoorML2
import Derived.Test.YtobdlfikomnmcaaGreatDoorMLen
import Derived.Test.YtobdlfikomnmcaaGreatDoorMTurn
namespace Go.Proofs.YtobdlfikomnmcaaGreatDoor
open Go.RowKit

theorem perm_of_in {α : Type} [Inhabited α] {d d' : Array α} (h : Sort.PermIn 0 d.size d d') : d'.toList.Perm d.toList := by
  obtain ⟨h1, _, h3⟩ := h
  have e1 : d'.extract 0 d.size = d' := by rw [← h1]; exact Array.extract_size
  have e2 : d.extract 0 d.size = d := Array.extract_size
  rw [e1, e2] at h3
  exact h3

/-- One pair ahead of another. -/
def ltP (x y : Pr) : Prop := x.n < y.n ∨ x.n = y.n ∧ x.v < y.v
theorem cfP_lt (x y : Pr) : cfP x y < 0 ↔ ltP x y := by
  unfold cfP ltP
  split
  · rename_i h
    rw [cmp_lt, (cmp_eq _ _).1 h]
    constructor
    · exact fun h => .inr ⟨rfl, h⟩
    · rintro (h | h)
      · exact absurd h (bytes_lt_irrefl _)
      · exact h.2
  · rename_i h
    rw [cmp_lt]
    constructor
    · exact fun h => .inl h
    · rintro (k | ⟨k, _⟩)
      · exact k
      · exact absurd ((cmp_eq _ _).2 k) h
theorem ltP_irrefl (x : Pr) : ¬ ltP x x := by
  rintro (h | h)
  · exact bytes_lt_irrefl _ h
  · exact bytes_lt_irrefl _ h.2
theorem ltP_trans {x y z : Pr} (h : ltP x y) (k : ltP y z) : ltP x z := by
  rcases h with h | ⟨e, h⟩
  · rcases k with k | ⟨e', k⟩
    · exact .inl (bytes_lt_trans h k)
    · exact .inl (by rw [← e']; exact h)
  · rcases k with k | ⟨e', k⟩
    · exact .inl (by rw [e]; exact k)
    · exact .inr ⟨e.trans e', bytes_lt_trans h k⟩
theorem ltP_tri (x y : Pr) : ltP x y ∨ x = y ∨ ltP y x := by
  rcases bytes_tri x.n y.n with h | h | h
  · exact .inl (.inl h)
  · rcases bytes_tri x.v y.v with k | k | k
    · exact .inl (.inr ⟨h, k⟩)
    · refine .inr (.inl ?_)
      cases x; cases y; simp at h k; rw [h, k]
    · exact .inr (.inr (.inr ⟨h.symm, k⟩))
  · exact .inr (.inr (.inl h))
theorem swoP : Sort.SWO (ltOf cfP) where
  irrefl x := by
    unfold ltOf
    rw [decide_eq_false_iff_not, cfP_lt]
    exact ltP_irrefl _
  trans x y z h k := by
    unfold ltOf at *
    rw [decide_eq_true_iff, cfP_lt] at *
    exact ltP_trans h k
  ntrans x y z h k := by
    unfold ltOf at *
    rw [decide_eq_false_iff_not, cfP_lt] at *
    intro hz
    rcases ltP_tri x y with e | e | e
    · exact h e
    · subst e; exact k hz
    · exact k (ltP_trans e hz)

set_option maxHeartbeats 1000000 in
theorem cmpPl (blk off size : Nat) (w : World) : CmpLays Tryz.prog 53 #[] encP 2 cfP blk off size w :=
  fun _ _ _ _ x y => cmpp_any x y _

theorem insn_any (p : Option Addr) (cap : Nat) (fv : Value) (w : World) :
    Calls Tryz.prog 79 #[.slice p 0 cap, .int .i64 0, .int .i64 0, fv] w fun e w' => e = .returned (.tuple #[]) ∧ w' = w := by
  go_enter Tryz.func79, Tryz.ntmps79
  go_wp2
  refine wp_loop_rounds 1 ?_
  rw [rounds_succ]
  go_wp2
  go_end0
  exact ⟨rfl, rfl⟩
theorem pdqn_any (p : Option Addr) (cap : Nat) (lim : Int) (fv : Value) (w : World) :
    Calls Tryz.prog 68 #[.slice p 0 cap, .int .i64 0, .int .i64 0, .int .i64 lim, fv] w fun e w' => e = .returned (.tuple #[]) ∧ w' = w := by
  have hi := Lib.hid (fun W => insn_any p cap fv W)
  go_enter Tryz.func68, Tryz.ntmps68
  go_wp2
  refine wp_loop_rounds 1 ?_
  rw [rounds_succ]
  go_wp2_with fail
  refine (hi.out _).mono ?_
  rintro e w' ⟨rfl, rfl⟩
  go_wp2
  (try simp only [Exit.inBlock, Exit.then])
  refine bodyPost_ret (results_none rfl _ _ _) rfl ?_
  exact ⟨rfl, rfl⟩

set_option maxHeartbeats 2000000 in
set_option maxRecDepth 100000 in
theorem sort_pr (v : Value) (ds : List Pr) (base : Nat) (w : World) (hs : Sl w base 2 v ds.length (prc ds)) (hlen : ds.length ≤ 1000000) :
    Calls Tryz.prog 52 #[v, .func (.func 53) #[] #[]] w fun e w' => e = .returned (.tuple #[]) ∧
      ∃ ds' : List Pr, ds'.Perm ds ∧ ds'.Pairwise (fun x y => ¬ ltP y x) ∧ Sl w' base 2 v ds.length (prc ds') ∧ Turn (fun k => v.ownBlock = some k) w w' := by
  rcases hs.2 with ⟨rfl, h0⟩ | ⟨g, off, cap, rfl, hb, hg, hnc, hcm, hfree, hcell⟩
  · have hnil : ds = [] := List.eq_nil_of_length_eq_zero h0
    subst hnil
    have HS := Lib.hid hs
    have HP := Lib.hid (fun lim W => pdqn_any none 0 lim (.func (.func 53) #[] #[]) W)
    have HL := Lib.hid (fun W => len_any 0 W (by omega))
    clear hs h0
    go_enter Tryz.func52, Tryz.ntmps52
    go_wp2_with fail
    refine (HL.out _).mono ?_
    rintro e w1 ⟨rfl, rfl⟩
    go_wp2_with fail
    refine (HP.out _ _).mono ?_
    rintro e w1 ⟨rfl, rfl⟩
    go_wp2
    go_end0
    exact ⟨rfl, [], List.Perm.refl _, List.Pairwise.nil, HS.out, Turn.refl _ _⟩
  · have hH : Sort.HoldsK encP 2 w g off ds.toArray := by
      intro t ht
      have ht' : t < ds.length * 2 := by simpa using ht
      have hc3 : ds.length * 2 ≤ cap * 2 := Nat.mul_le_mul_right _ hnc
      refine ⟨?_, (hfree t (by omega)).2⟩
      rw [hcell t ht', prc_get ds t ht', Sort.get_flatK _ _ _ _ (by simpa using ht)]
      rfl
    have eg : ∀ args w, (callFunc 53 args).run Tryz.prog w = .ok (.enter 53 args) w := enters_of Tryz.func53 (by kernel_rfl) rfl
    have hp := AnyQ.pdqsortCmpFunc_all sortPair 2 Tryz.isAgg65 Tryz.sizeOf65 encP cfP 53 #[] swoP g off cap ds.toArray w eg (cmpPl g off _ w) ⟨fun _ => rfl, fun x v hv => by simp [encP] at hv; rcases hv with rfl | rfl <;> rfl, hH, hg⟩ (ds.length + 1) 0 ds.length (Lib.bitLen ds.length) ds.toArray w (by omega) rfl (SWK.start hH) (Nat.zero_le _) (by simp) (by simp; omega) (Nat.lt_of_le_of_lt (Lib.bitLen_le ds.length 62 (by omega) (by omega)) (by omega)) (Or.inl rfl)
    have hpd := Sort.pdq_sorts (ltOf cfP) swoP ds.toArray 0 ds.length (Lib.bitLen ds.length) true true (Nat.zero_le _) (by simp) (Or.inl rfl)
    obtain ⟨d', hd'⟩ : ∃ d', d' = Sort.pdq (ltOf cfP) ds.toArray 0 ds.length (Lib.bitLen ds.length) true true := ⟨_, rfl⟩
    rw [← hd'] at hp hpd
    clear hd'
    rw [List.size_toArray] at hp
    have HP := Lib.hid (show Calls Tryz.prog 68 #[.slice (some ⟨g, off, none⟩) ds.length cap, .int .i64 0, .int .i64 ds.length, .int .i64 (Lib.bitLen ds.length), .func (.func 53) #[] #[]] w (fun e w' => e = .returned (.tuple #[]) ∧ SWK encP 2 w g off d' w') from hp)
    have HL := Lib.hid (fun W => len_any ds.length W (by omega))
    have HD := Lib.hid hpd
    have wr : IntKind.u64.wrap (ds.length : Int) = ds.length := by simp [IntKind.wrap, IntKind.bits, IntKind.signed]; omega
    have HH := Lib.hid hH
    have HF := Lib.hid hfree
    have HC := Lib.hid hcell
    clear hp hpd hH hfree hcell hs eg
    go_enter Tryz.func52, Tryz.ntmps52
    go_wp2_with fail
    refine (HL.out _).mono ?_
    rintro e w1 ⟨rfl, rfl⟩
    go_wp2_with fail
    refine HP.out.mono ?_
    rintro e w1 ⟨rfl, hw⟩
    go_wp2
    go_end0
    have hpd := HD.out; have hH := HH.out; have hfree := HF.out; have hcell := HC.out
    obtain ⟨n, os, rfl⟩ := hw
    obtain ⟨hp, hso⟩ := hpd
    have hds : d'.size = ds.length := by have := hp.1; simpa using this
    have hg' : g < (Sort.putRow id (Sort.ahead w n) g off (Sort.flatK encP 2 d')).heap.size := by simpa using hg
    have hcells : ∀ t, t < ds.length * 2 → (sortWorldK encP 2 w g off n d' os).cell? ⟨g, off + t, none⟩ = some ((encP (d'[t / 2]!))[t % 2]!) := fun t ht => by
      unfold sortWorldK Sort.putRowK
      rw [Sort.cell?_grow _ _ _ hg']
      have := Sort.cell?_putRow id (Sort.ahead w n) g off (Sort.flatK encP 2 ds.toArray) (Sort.flatK encP 2 d') hH (by simp [hds]) t (by simp; omega)
      rw [this, Sort.get_flatK _ _ _ _ (by rw [hds]; exact ht)]
      rfl
    refine ⟨rfl, d'.toList, perm_of_in (by simpa using hp), ?_, ⟨by rw [prc_length]; simp [hds], .inr ⟨g, off, cap, rfl, hb, by unfold sortWorldK Sort.putRowK; simp; omega, hnc, hcm, fun j hj => ⟨?_, ?_⟩, fun j hj => ?_⟩⟩, rfl, rfl, rfl, by unfold sortWorldK Sort.putRowK; simp, fun k hk hne => ?_⟩
    · rw [List.pairwise_iff_getElem]
      intro i j hi hj hij
      have h := hso i j (Nat.zero_le _) hij (by simp [hds] at hj ⊢; exact hj)
      unfold ltOf at h
      rw [decide_eq_false_iff_not, cfP_lt] at h
      have e1 : d'[i]! = d'.toList[i] := by simp [hds] at hi; simp [hds, hi]
      have e2 : d'[j]! = d'.toList[j] := by simp [hds] at hj; simp [hds, hj]
      rw [e1, e2] at h
      exact h
    · by_cases hjt : j < ds.length * 2
      · rw [hcells j hjt]; rfl
      · unfold sortWorldK Sort.putRowK
        rw [Sort.cell?_grow _ _ _ hg', Sort.cell?_putRow_other _ _ _ _ _ _ (.inr (.inr (by simp; omega)))]
        exact (hfree j hj).1
    · unfold sortWorldK Sort.putRowK
      rw [Sort.frozen?_grow _ _ _ hg', Sort.frozen?_putRow]
      exact (hfree j hj).2
    · rw [hcells j hj, prc_get d'.toList j (by simpa [hds] using hj)]
    · unfold sortWorldK Sort.putRowK
      rw [Sort.heap_grow_old _ _ (by simpa using hk)]
      have hgk : g ≠ k := fun e => hne (by rw [e]; rfl)
      simp [Sort.putRow, Sort.mapBlock, Sort.ahead, Array.getElem?_modify, hgk]
end Go.Proofs.YtobdlfikomnmcaaGreatDoor

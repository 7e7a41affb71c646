/- Layer 15: a series' own labels. -/
import Derived.Test.YthgpnjkabpfccaaDoorMHB
import Derived.Test.YthgpnjkabpfccaaDoorML6
import Derived.Test.YthgpnjkabpfccaaDoorMU0
import Derived.Deep.RegionLaw
import Derived.RegionTactic
namespace Go.Proofs.YthgpnjkabpfccaaDoor
open Go.RowKit Go.Lib

theorem bel_allocC {a w : World} {o : Obj} (h : Below a.heap.size a w) : Below a.heap.size a (w.alloc o) := h.alloc h.size _
set_option maxHeartbeats 2000000 in
set_option maxRecDepth 100000 in
theorem own_any (v : Value) (ds : List Pr) (w : World) (h : Rd w 2 v ds.length (prc ds)) (hm : ∀ p ∈ ds, p.n.length ≤ 100000000 ∧ p.v.length ≤ 100000000) (hn0 : ds.length ≤ 1000000) :
    Calls Tryd.prog 43 #[v] w fun e w' => ∃ v', e = .returned v' ∧ Sl w' w.heap.size 2 v' ds.length (prc ds) ∧ Below w.heap.size w w' := by
  obtain ⟨i0, hi, hz0, hz1, hz2⟩ := info_parts zc_pair
  have Hz := Lib.hid hz0; have Hs := Lib.hid hz1; have Hb := Lib.hid hz2; have Hi := Lib.hid hi
  clear hz0 hz1 hz2 hi
  obtain ⟨_, a, cap, g, off, rfl, hg, hc⟩ := h
  obtain ⟨n, hn⟩ : ∃ n, n = ds.length := ⟨_, rfl⟩
  rw [← hn] at hg hc hn0 ⊢
  have HN := Lib.hid hn
  have HC := Lib.hid hc
  have HG := Lib.hid hg
  clear hn hc hg
  go_enter Tryd.func43, Tryd.ntmps43
  go_wp2_with fail
  go_loopw [3, 8] (fun l' i' wr => ∃ (k : Nat), i' = .int .i64 k ∧ k ≤ n ∧ Sl wr w.heap.size 2 l' k (prc (ds.take k)) ∧ Below w.heap.size w wr) (fun _ i' _ => n - (RowKit.intOf i').toNat)
  case atStart => exact ⟨0, rfl, by omega, Sl.nil _ _ _, Below.refl _ _⟩
  case round =>
    obtain ⟨k, rfl, hk, sl, hb⟩ := hrel
    by_cases hlt : k < n
    · obtain ⟨p, hp⟩ : ∃ p, ds[k]? = some p := ⟨_, List.getElem?_eq_getElem (by have := HN.out; omega)⟩
      have hmp := hm p (List.mem_of_getElem? hp)
      have htk : ds.take (k + 1) = ds.take k ++ [p] := by rw [List.take_add_one, hp]; rfl
      obtain ⟨rfl, hgl⟩ := HG.out (by omega)
      obtain ⟨v0, v1⟩ := prc_at ds k p hp
      have c0 := (hb.cell (p := ⟨g, off + k * 2, none⟩) hgl).trans ((HC.out (k * 2) (by omega)).trans v0)
      have c1 := (hb.cell (p := ⟨g, off + k * 2 + 1, none⟩) hgl).trans ((HC.out (k * 2 + 1) (by omega)).trans v1)
      have CA := Lib.hid (fun W => sclone_any p.n W hmp.1)
      have CB := Lib.hid (fun W => sclone_any p.v W hmp.2)
      have e1 : prc [p] = [.string (bs p.n), .string (bs p.v)] := rfl
      have HTK := Lib.hid (show prc (ds.take (k + 1)) = prc (ds.take k) ++ [.string (bs p.n), .string (bs p.v)] by rw [htk, prc_append, e1])
      obtain ⟨S1, hS1⟩ : ∃ S, S = bs p.n := ⟨_, rfl⟩
      obtain ⟨S2, hS2⟩ : ∃ S, S = bs p.v := ⟨_, rfl⟩
      rw [← hS1] at c0 CA HTK
      rw [← hS2] at c1 CB HTK
      obtain ⟨xs, hxs⟩ : ∃ xs, xs = prc (ds.take k) := ⟨_, rfl⟩
      rw [← hxs] at sl HTK
      have hlt' : (k : Int) < n := by omega
      have n1 : k + 1 ≤ maxLen := by unfold maxLen; omega
      have n2 : (k + 1) * 32 ≤ 140737488355328 := by omega
      clear hm hmp htk hp v0 v1 e1 hS1 hS2 hxs
      go_upto_region 5 with fail
      have Q0 := Lib.cell_of_heap (heap_alloc_new wr (.cells #[.string S1, .string S2] 65)) 0
      have Q1 := Lib.cell_of_heap (heap_alloc_new wr (.cells #[.string S1, .string S2] 65)) 1
      have SL0 := Lib.hid (sl.alloc (.cells #[.string S1, .string S2] 65))
      have B0 := Lib.hid (bel_allocC (o := .cells #[.string S1, .string S2] 65) hb)
      have hsz0 : wr.heap.size < (wr.alloc (.cells #[.string S1, .string S2] 65)).heap.size := by simp
      obtain ⟨p, hpp⟩ : ∃ p, p = wr.heap.size := ⟨_, rfl⟩
      rw [← hpp] at Q0 Q1 hsz0 ⊢
      obtain ⟨W0, hW0⟩ : ∃ W0, W0 = wr.alloc (.cells #[.string S1, .string S2] 65) := ⟨_, rfl⟩
      rw [← hW0] at Q0 Q1 SL0 B0 hsz0 ⊢
      have q0 : W0.cell? ⟨p, 0, none⟩ = some (.string S1) := Q0
      have q1 : W0.cell? ⟨p, 1, none⟩ = some (.string S2) := Q1
      have F := Lib.hid (fun W (b : Below W0.heap.size W0 W) => (show W.cell? ⟨p, 0, none⟩ = some (.string S1) ∧ W.cell? ⟨p, 1, none⟩ = some (.string S2) from ⟨(b.cell (p := ⟨p, 0, none⟩) hsz0).trans q0, (b.cell (p := ⟨p, 1, none⟩) hsz0).trans q1⟩))
      clear Q0 Q1 hpp hW0 sl hb c0 c1 hsz0
      go_region_law (first
        | (go_simp; go_at_call 64; refine (CA.out _).mono ?_; rintro y w2 ⟨rfl, bA⟩; have bA2 := Below.trans (show Below W0.heap.size W0 _ by (with_reducible repeat (first | exact Below.refl _ _ | assumption | apply Below.drew))) (bA.mono (Nat.le_refl _)); obtain ⟨a0, a1⟩ := F.out _ bA2)
        | (go_simp; go_at_call 64; refine (CB.out _).mono ?_; rintro y w3 ⟨rfl, bB⟩; have bB2 := bA2.trans (bB.mono bA2.size); obtain ⟨d0, d1⟩ := F.out _ bB2)
        | (refine step_append_sl rfl (.tmp 12) (.tmp 20) 38 rfl w.heap.size 65 i0 (.agg #[.string ⟨#[]⟩, .string ⟨#[]⟩]) 2 32 Tryd.underlying38 Hi.out Hz.out Hs.out Hb.out rfl (by decide) _ k xs rfl ((SL0.out.on bB2).alloc _) ⟨w3.heap.size, 0, none⟩ 1 1 [.string S1, .string S2] rfl rfl (fun j u hu => by rw [Addr.add_lit, Nat.zero_add, Lib.cell_of_heap (heap_alloc_new _ _) j]; simpa using hu) (by simp [Value.oneCell']) n1 n2 (by have := B0.out.size; have := bB2.size; simp; omega) ?_; intro v' w4 hx; obtain ⟨a4, c4, rfl⟩ := hx.now.slice))
      all_goals go_wp2_with fail
      all_goals
        have hnow := hx.now
        rw [← HTK.out] at hnow
        have b3 := bel_allocC (o := .cells #[.string S1, .string S2] 65) (B0.out.trans (bB2.mono B0.out.size))
        exact ⟨⟨k + 1, by go_num, hlt, hnow, b3.trans (hx.below (Nat.le_refl _) b3.size)⟩, by simp [RowKit.intOf]; omega⟩
    · have hkn : k = n := by omega
      subst hkn
      have htk : ds.take k = ds := List.take_of_length_le (by have := HN.out; omega)
      rw [htk] at sl
      clear htk
      go_wp2_with fail
      go_ret
      exact ⟨_, rfl, sl, hb⟩
end Go.Proofs.YthgpnjkabpfccaaDoor

/- Layer 5's buckets: Look. Layer 5: the fixed answers; BucketAgain; BucketParts. BucketAgain. BucketParts. Layer 5: List; BucketLast. -/
import Derived.Test.YtnjoojffefhgpaaMG4
import Derived.Test.YtnjoojffefhgpaaMD11
import Derived.Test.YtnjoojffefhgpaaMD13
import Derived.Test.YtnjoojffefhgpaaME0
namespace Go.Proofs.Ytnjoojffefhgpaa
open Go.Conc Go.RowKit
open Go.ChangeMaps (setBlock)

def Ob.inf (x : Ob) : Inf := ⟨x.name, x.data.size, x.tm⟩
/-- What is told of objects whose names begin so. -/
def infsO (p : ByteArray) (vs : List Ob) : List Inf := (vs.filter fun x => pre p.data.toList x.name.data.toList).map Ob.inf
theorem borns_injO : ∀ (fs : List Ob), (fs.map (·.born)).Nodup → ∀ x ∈ fs, ∀ y ∈ fs, x.born = y.born → x = y
  | [], _, x, hx, _, _, _ => by cases hx
  | e :: es, h, x, hx, y, hy, he => by
    rw [List.map_cons, List.nodup_cons] at h
    rcases List.mem_cons.1 hx with hxe | hx
    · rcases List.mem_cons.1 hy with hye | hy
      · rw [hxe, hye]
      · exact absurd (show e.born ∈ es.map (·.born) from List.mem_map.2 ⟨y, hy, by rw [← he, hxe]⟩) h.1
    · rcases List.mem_cons.1 hy with hye | hy
      · exact absurd (show e.born ∈ es.map (·.born) from List.mem_map.2 ⟨x, hx, by rw [he, hye]⟩) h.1
      · exact borns_injO es h.2 x hx y hy he
theorem borns_permO (fs vs : List Ob) (h : (fs.map (·.born)).Nodup) (hv : vs.Nodup) (hsub : ∀ x ∈ vs, x ∈ fs) (hall : ∀ x ∈ fs, x.born ∈ vs.map (·.born)) : vs.Perm fs := by
  refine (List.perm_ext_iff_of_nodup hv (nodup_of_map _ fs h)).2 fun x => ⟨hsub x, fun hx => ?_⟩
  obtain ⟨y, hy, he⟩ := List.mem_map.1 (hall x hx)
  rw [borns_injO fs h x hx y (hsub y hy) he.symm]
  exact hy
abbrev entsO (fs : List Ob) : Array MapEntry := ((fs.map Ob.en).map En.ent).toArray
theorem left_noneO (fs vs : List Ob) (h : (leftOf (entsO fs) (vs.map (·.born)).toArray).size = 0) : ∀ x ∈ fs, x.born ∈ vs.map (·.born) := by
  intro x hx
  have h0 := Array.eq_empty_of_size_eq_zero h
  unfold leftOf at h0
  rw [Array.filter_eq_empty_iff] at h0
  have := h0 x.en.ent (by simp only [entsO]; rw [List.mem_toArray]; exact List.mem_map.2 ⟨x.en, List.mem_map.2 ⟨x, hx, rfl⟩, rfl⟩)
  simpa [Ob.en, En.ent] using this
theorem left_someO (fs vs : List Ob) (e : MapEntry) (h : e ∈ (leftOf (entsO fs) (vs.map (·.born)).toArray).toList) : ∃ x ∈ fs, e = x.en.ent ∧ x.born ∉ vs.map (·.born) := by
  unfold leftOf at h
  rw [Array.mem_toList_iff, Array.mem_filter] at h
  obtain ⟨h1, h2⟩ := h
  simp only [entsO, List.mem_toArray, List.mem_map] at h1
  obtain ⟨y, ⟨x, hx, rfl⟩, rfl⟩ := h1
  exact ⟨x, hx, rfl, by simpa [Ob.en, En.ent] using h2⟩
theorem borns_nextO (vs : List Ob) (hv : (vs.map (·.born)).Nodup) (x : Ob) (hn : x.born ∉ vs.map (·.born)) : ((vs ++ [x]).map (·.born)).Nodup := by
  rw [List.map_append, List.nodup_append]
  refine ⟨hv, by simp, fun a ha b hb => ?_⟩
  rw [List.map_singleton, List.mem_singleton] at hb
  rintro rfl
  exact hn (hb ▸ ha)
theorem borns_lenO (fs vs : List Ob) (hv : (vs.map (·.born)).Nodup) (hsub : ∀ x ∈ vs, x ∈ fs) (x : Ob) (hx : x ∈ fs) (hn : x.born ∉ vs.map (·.born)) : vs.length < fs.length := by
  have := nat_len _ (fs.map (·.born)) (borns_nextO vs hv x hn) fun y hy => by
    obtain ⟨z, hz, rfl⟩ := List.mem_map.1 hy
    rw [List.mem_append, List.mem_singleton] at hz
    rcases hz with hz | rfl
    · exact List.mem_map.2 ⟨z, hsub z hz, rfl⟩
    · exact List.mem_map.2 ⟨z, hx, rfl⟩
  simp at this
  omega


/-- What is told so far. -/
def Told (m : Nat) (os : List Ob) (clock : Nat) (p : ByteArray) (w : World) (v : Value) (wr : World) : Prop :=
  ∃ (vs : List Ob) (c0 : Nat), (vs.map (·.born)).Nodup ∧ (∀ x ∈ vs, x ∈ os) ∧ wr.heap[w.heap.size]? = some (.mapIter (some m) clock (vs.map (·.born)).toArray c0) ∧ clock ≤ c0 ∧
    Sl wr (w.heap.size + 1) 3 v (infsO p vs).length (infc (infsO p vs)) ∧ Below w.heap.size w wr ∧ w.heap.size < wr.heap.size

theorem bi_info : (Try.prog.info? 103).map (fun i => (i.zero, i.size, i.bytes)) = some (some (.agg #[.string ⟨#[]⟩, .int .i64 0, .int .i64 0]), 3, 32) := by kernel_rfl

set_option maxHeartbeats 1000000 in
set_option maxRecDepth 100000 in
theorem looks_any (k f c m : Nat) (os : List Ob) (A : List Ft) (clock : Nat) (p : ByteArray) (w : World) (h : BucketAt k f c m os A clock w) (hfew : os.length ≤ 1000) :
    Calls Try.prog 15 #[.pointer (some ⟨k, 0, none⟩), .string p] w fun e w' => ∃ v ds, e = .returned v ∧
      ds.Perm (infsO p os) ∧ ds.Pairwise (fun x y => ¬ y.name.data.toList < x.name.data.toList) ∧ Sl w' w.heap.size 3 v ds.length (infc ds) ∧ Below w.heap.size w w' := by
  have c1 := h.c1
  have hrg := run_range_map (P := Try.prog) w 53 9 105 m (entsO os) clock Try.underlying53 h.map
  obtain ⟨i0, hi, hz0, hz1, hz2⟩ := info_parts bi_info
  have Hz := Lib.hid hz0; have Hs := Lib.hid hz1; have Hb := Lib.hid hz2; have Hi := Lib.hid hi
  clear hz0 hz1 hz2 hi
  have hml := h.mlt
  have HP := fun s W => Lib.hid (has_any s p W)
  have HHP := Lib.hid HP
  clear HP
  go_enter Try.func15, Try.ntmps15
  go_wp2
  go_loopw [5] (fun v wr => Told m os clock p w v wr) (fun _ wr => os.length - iterSeen w.heap.size wr)
  case atStart =>
    exact ⟨[], clock, by simp, by simp, heap_alloc_new w _, Nat.le_refl _, Sl.nil _ _ _, (Below.refl _ w).alloc (Nat.le_refl _) _, by simp⟩
  case round =>
    obtain ⟨vs, c0, hvn, hsub, hit, hcc, hsl, hbel, hlt⟩ := hrel
    have hmr : wr.heap[m]? = some (.map (entsO os) clock) := (hbel.block m hml).trans h.map
    have hold : ∀ x ∈ (entsO os).toList, x.born < clock := fun e he => by
      simp only [List.mem_map] at he
      obtain ⟨y, ⟨x, hx, rfl⟩, rfl⟩ := he
      exact h.stamps.1 x hx
    rcases run_next_at (P := Try.prog) wr 0 w.heap.size m clock c0 (vs.map (·.born)).toArray (entsO os) clock hit hmr hold hcc with ⟨h0, hn⟩ | ⟨e, hmem, w1, hw1, hn⟩
    · have hall := left_noneO os vs h0
      have hperm : (infsO p vs).Perm (infsO p os) := ((borns_permO os vs h.stamps.2 (nodup_of_map _ vs hvn) hsub hall).filter _).map _
      have hk1 : (infsO p vs).length ≤ 1000 := by
        rw [hperm.length_eq]
        unfold infsO
        rw [List.length_map]
        exact Nat.le_trans (List.length_filter_le _ _) hfew
      have SC := sort_inf u5 (infsO p vs) (w.heap.size + 1) wr hsl hk1
      have HPM := Lib.hid hperm
      have HSC := Lib.hid SC
      obtain ⟨hsl1, hsl2⟩ := And.intro hsl.lt hbel
      clear SC hperm hall hsub hvn hk1 hit hold hmr h0
      go_wp2_with fail
      refine HSC.out.mono ?_
      rintro e w2 ⟨rfl, ds, hp2, hso, hs2, t2⟩
      go_wp2
      go_ret
      refine ⟨_, ds, rfl, hp2.trans HPM.out, hso, ?_, hbel.trans (t2.below (by omega) fun k hk => by have := (hsl1 k hk).1; omega)⟩
      have := hs2.mono (base' := w.heap.size) (by omega)
      rw [← hp2.length_eq] at this
      exact this
    · obtain ⟨x, hx, rfl, hxn⟩ := left_someO os vs e hmem
      obtain ⟨W1, hW1⟩ : ∃ W1, W1 = setBlock w1 w.heap.size (.mapIter (some m) clock ((vs.map (·.born)).toArray.push x.en.ent.born) clock) := ⟨_, rfl⟩
      rw [← hW1] at hn
      have z1 : W1.heap.size = wr.heap.size := by rw [hW1]; rcases hw1 with rfl | rfl <;> simp [setBlock]
      have hr1 : W1.heap[w.heap.size]? = some (.mapIter (some m) clock ((vs.map (·.born)).toArray.push x.en.ent.born) clock) := by rw [hW1]; rcases hw1 with rfl | rfl <;> simp [setBlock, hlt]
      have hb1 : ∀ k, k ≠ w.heap.size → W1.heap[k]? = wr.heap[k]? := fun k hk => by
        rw [hW1]
        rcases hw1 with rfl | rfl
        · simp [setBlock, Array.getElem?_setIfInBounds_ne (Ne.symm hk)]
        · simp [setBlock, Array.getElem?_setIfInBounds_ne (Ne.symm hk)]; rfl
      have hbel1 : Below w.heap.size w W1 := by
        refine ⟨?_, ?_, ?_, by omega, fun k hk => (hb1 k (by omega)).trans (hbel.block k hk)⟩
        all_goals rw [hW1]; rcases hw1 with rfl | rfl
        · exact hbel.os
        · exact hbel.os
        · exact hbel.tape
        · exact hbel.tape
        · exact hbel.output
        · exact hbel.output
      have hen := run_entry_at (P := Try.prog) W1 w.heap.size m clock (vs.map (·.born)).toArray (entsO os) clock x.en.ent hr1 ((hb1 m (by omega)).trans hmr) (by simp only; exact List.mem_map.2 ⟨x.en, List.mem_map.2 ⟨x, hx, rfl⟩, rfl⟩) (by
        have := h.stamps.2
        simpa [entsO, List.map_map, Function.comp_def, Ob.en, En.ent] using this)
      have hs1 : Sl W1 (w.heap.size + 1) 3 u5 (infsO p vs).length (infc (infsO p vs)) := hsl.same (by omega) fun k hk => hb1 k (by have := (hsl.lt k hk).1; omega)
      have hlen := borns_lenO os vs hvn hsub x hx hxn
      have hitL : ∀ W2 : World, W2.heap[w.heap.size]? = W1.heap[w.heap.size]? → iterSeen w.heap.size W2 = vs.length + 1 := fun W2 h2 => by
        unfold iterSeen; rw [h2, hr1]; simp
      have hitO : iterSeen w.heap.size wr = vs.length := by unfold iterSeen; rw [hit]; simp
      have hpush : (vs.map (·.born)).toArray.push x.en.ent.born = ((vs ++ [x]).map (·.born)).toArray := by simp [Ob.en, En.ent]
      rw [hpush] at hr1
      simp only [Ob.en, En.ent, oval] at hn hen
      have hname : ∀ b, pre p.data.toList x.name.data.toList = b → infsO p (vs ++ [x]) = infsO p vs ++ (if b then [x.inf] else []) := fun b hb => by
        unfold infsO; rw [List.filter_append, List.map_append]; congr 1; simp only [List.filter_cons, List.filter_nil, hb]; cases b <;> rfl
      have hsub1 : ∀ y ∈ vs ++ [x], y ∈ os := fun y hy => by
        rw [List.mem_append, List.mem_singleton] at hy
        rcases hy with hy | rfl
        · exact hsub y hy
        · exact hx
      have hvn1 := borns_nextO vs hvn x hxn
      clear hW1 hw1 hold hmem hit hmr hsl
      cases hpre : pre p.data.toList x.name.data.toList
      · rw [hpre] at hname
        have HPX := Lib.hid hname
        have C := (HHP.out x.name)
        rw [hpre] at C
        go_wp2_with fail
        refine (C _).out.mono ?_
        rintro e w2 ⟨rfl, rfl⟩
        go_wp2
        obtain ⟨W2, hW2⟩ : ∃ W2, W2 = W1.alloc (.cells #[.string x.data, .int .i64 x.tm] 105) := ⟨_, rfl⟩
        rw [← hW2]
        have z2 : W2.heap.size = W1.heap.size + 1 := by rw [hW2]; simp
        have h2 : W2.heap[w.heap.size]? = W1.heap[w.heap.size]? := by rw [hW2, Below.heap_alloc _ _ _ (by omega)]
        refine ⟨⟨vs ++ [x], clock, hvn1, hsub1, h2.trans hr1, Nat.le_refl _, ?_, ?_, by omega⟩, by rw [hitL _ h2, hitO]; omega⟩
        · rw [HPX.out false rfl]
          have := hs1.alloc (.cells #[.string x.data, .int .i64 x.tm] 105)
          rw [← hW2] at this
          simpa using this
        · rw [hW2]
          exact hbel1.alloc (by omega) _
      · rw [hpre] at hname
        have HPX := Lib.hid hname
        have C := (HHP.out x.name)
        rw [hpre] at C
        have hk1 : (infsO p vs).length ≤ vs.length := by unfold infsO; rw [List.length_map]; exact List.length_filter_le _ _
        obtain ⟨K, hK⟩ : ∃ K, K = (infsO p vs).length := ⟨_, rfl⟩
        rw [← hK] at hk1 hs1
        obtain ⟨W2, hW2⟩ : ∃ W2, W2 = W1.alloc (.cells #[.string x.data, .int .i64 x.tm] 105) := ⟨_, rfl⟩
        have hb2 := heap_alloc_new W1 (.cells #[.string x.data, .int .i64 x.tm] 105)
        rw [← hW2] at hb2
        rw [z1] at hb2
        have z2 : W2.heap.size = wr.heap.size + 1 := by rw [hW2]; simp; omega
        have h2 : W2.heap[w.heap.size]? = W1.heap[w.heap.size]? := by rw [hW2, Below.heap_alloc _ _ _ (by omega)]
        have hs2' : Sl W2 (w.heap.size + 1) 3 u5 K (infc (infsO p vs)) := by rw [hW2]; exact hs1.alloc _
        have hs2 := hs2'.alloc (.cells #[.string x.name, .int .i64 x.data.size, .int .i64 x.tm] 103)
        have hs3 : Sl (W2.alloc (.cells #[.string x.name, .int .i64 x.data.size, .int .i64 x.tm] 103)) (w.heap.size + 1) 3 (.slice (some ⟨wr.heap.size + 1, 0, none⟩) 1 1) 1 [.string x.name, .int .i64 x.data.size, .int .i64 x.tm] := by
          rw [← z2]
          exact Sl.lit W2 (w.heap.size + 1) 3 1 #[.string x.name, .int .i64 x.data.size, .int .i64 x.tm] _ (by omega) (by decide) rfl
        have bW2 : Below w.heap.size w W2 := by rw [hW2]; exact hbel1.alloc (by omega) _
        have q1 : W2.cell? ⟨wr.heap.size, 0, none⟩ = some (.string x.data) := by rw [cell_of_row _ _ 0 _ _ _ hb2]; rfl
        have q2 : W2.cell? ⟨wr.heap.size, 1, none⟩ = some (.int .i64 x.tm) := by rw [cell_of_row _ _ 1 _ _ _ hb2]; rfl
        have n1 : K + 1 ≤ maxLen := by unfold maxLen; omega
        have n2 : (K + 1) * 32 ≤ 140737488355328 := by omega
        have n3 : w.heap.size + 1 ≤ (W2.alloc (.cells #[.string x.name, .int .i64 x.data.size, .int .i64 x.tm] 103)).heap.size := by simp; omega
        have HK := Lib.hid hK
        have HX := Lib.hid hsub1
        have HV := Lib.hid hvn1
        have HW2 := Lib.hid hW2
        clear hK hsub1 hvn1 hsub hvn hxn hb2 hW2 hs1 hs2'
        have hone : ∀ v ∈ [Value.string x.name, .int .i64 x.data.size, .int .i64 x.tm], v.oneCell' = true := by
          intro v hv
          simp only [List.mem_cons, List.not_mem_nil, or_false] at hv
          rcases hv with rfl | rfl | rfl <;> rfl
        go_wp2_with fail
        refine (C _).out.mono ?_
        rintro e w2 ⟨rfl, rfl⟩
        rw [← HW2.out]
        go_wp2_with (at_builtin; refine wpList_append_sl2 _ rfl _ _ 61 rfl (w.heap.size + 1) 103 i0 (.agg #[.string ⟨#[]⟩, .int .i64 0, .int .i64 0]) 3 32 Try.underlying61 Hi.out Hz.out Hs.out Hb.out rfl (by decide) _ K _ rfl hs2 (w.heap.size + 1) _ 1 _ rfl hs3 hone n1 n2 n3 ?_; intro v' w3 hx3)
        refine ⟨⟨vs ++ [x], clock, HV.out, HX.out, ?_, Nat.le_refl _, ?_, ?_, ?_⟩, ?_⟩
        · rw [hx3.grown.block w.heap.size (by simp; omega) (fun e => by have := (hs2.lt w.heap.size e.symm).1; omega), Below.heap_alloc _ _ _ (by omega), h2]
          exact hr1
        · rw [HPX.out true rfl]
          have := hx3.now
          rw [HK.out] at this
          rw [infc_append, if_pos rfl, List.length_append]
          exact this
        · exact (bW2.alloc (by omega) _).trans (hx3.below (by omega) (by simp; omega))
        · have := hx3.grown.size
          simp at this
          omega
        · rw [hitL w3 (by
            rw [hx3.grown.block w.heap.size (by simp; omega) (fun e => by have := (hs2.lt w.heap.size e.symm).1; omega), Below.heap_alloc _ _ _ (by omega), h2]), hitO]
          omega
end Go.Proofs.Ytnjoojffefhgpaa

namespace Go.Proofs.Ytnjoojffefhgpaa
open Go.Conc Go.RowKit

theorem blooks (k f c m : Nat) (os : List Ob) (A : List Ft) (p : ByteArray) (w : World) (h : Bk k f c m os A w) (hfew : os.length ≤ 1000) :
    Calls Try.prog 15 #[.pointer (some ⟨k, 0, none⟩), .string p] w fun e w' => ∃ v ds, e = .returned v ∧
      ds.Perm (infsO p os) ∧ ds.Pairwise (fun x y => ¬ y.name.data.toList < x.name.data.toList) ∧ Sl w' w.heap.size 3 v ds.length (infc ds) ∧ Below w.heap.size w w' := by
  obtain ⟨ck, h⟩ := h
  exact looks_any k f c m os A ck p w h hfew
theorem blooks0 (k f c m : Nat) (A : List Ft) (p : ByteArray) (w : World) (h : Bk k f c m [] A w) :
    Calls Try.prog 15 #[.pointer (some ⟨k, 0, none⟩), .string p] w fun e w' => ∃ a cap, e = .returned (.slice a 0 cap) ∧ Below w.heap.size w w' := by
  refine (blooks k f c m [] A p w h (by simp)).mono ?_
  rintro e w' ⟨v, ds, rfl, hp, _, hs, b⟩
  have : ds = [] := by simpa [infsO] using hp
  subst this
  obtain ⟨a, cap, rfl⟩ := hs.slice
  exact ⟨a, cap, rfl, b⟩

set_option maxHeartbeats 1000000 in
set_option maxRecDepth 100000 in
theorem bawake_any (w : World) : Calls Try.prog 12 #[] w fun e w' => e = .returned (.bool true) ∧ Below w.heap.size w w' := by
  have HN := Lib.hid (bnew_home w)
  go_enter Try.func12, Try.ntmps12
  go_wp2_with fail
  refine HN.out.mono ?_
  rintro e w1 ⟨k, f, c, m, rfl, D1, hH, b1⟩
  have e1 := D1.c0
  clear HN
  have C1 := Lib.hid (bput_go w.heap.size k f c m [] [] ⟨#[97]⟩ ⟨#[120, 121, 122]⟩ 7 w1 D1 hH (by decide))
  go_wp2_with fail
  refine C1.out.mono ?_
  rintro e w2 ⟨he, ⟨clock, D2⟩, b2⟩
  rw [show (if (tryL []).1.1 = true then (0 : Int) else 8) = 0 from rfl] at he
  subst he
  change Bk k f c m [⟨⟨#[97]⟩, ⟨#[120, 121, 122]⟩, 7, clock⟩] [] w2 at D2
  have C2 := Lib.hid (brange w.heap.size k f c m _ _ ⟨#[97]⟩ 1 9 w2 D2 hH (by decide) (by decide))
  go_wp2_with fail
  refine C2.out.mono ?_
  rintro e w3 ⟨he, D3, b3⟩
  change e = .returned (.tuple #[.string ⟨#[121, 122]⟩, .int .i64 0]) at he
  subst he
  change Bk k f c m [⟨⟨#[97]⟩, ⟨#[120, 121, 122]⟩, 7, clock⟩] [] w3 at D3
  have e3 := D3.c0
  have C3 := Lib.hid (barm0 w.heap.size k f c m _ 0 true w3 D3 hH (by unfold Ft.Fits; decide))
  clear C1 C2 e1
  go_wp2_with fail
  refine C3.out.mono ?_
  rintro e w4 ⟨rfl, D4, b4⟩
  have C4 := Lib.hid (bdelete w.heap.size k f c m _ _ ⟨#[97]⟩ w4 D4 hH)
  clear C3
  go_wp2_with fail
  refine C4.out.mono ?_
  rintro e w5 ⟨he, D5, b5⟩
  rw [show (if (tryL [(max 0 0, true)]).1.1 = true then (0 : Int) else 8) = 8 from rfl] at he
  subst he
  change Bk k f c m [] [] w5 at D5
  have C5 := Lib.hid (bget w.heap.size k f c m _ _ ⟨#[97]⟩ w5 D5 hH)
  clear C4
  go_wp2_with fail
  refine C5.out.mono ?_
  rintro e w6 ⟨he, D6, b6⟩
  change e = .returned (.tuple #[.string ByteArray.empty, .int .i64 5]) at he
  subst he
  change Bk k f c m [] [] w6 at D6
  have C6 := Lib.hid (blooks0 k f c m _ ⟨#[]⟩ w6 D6)
  clear C5
  go_wp2_with fail
  refine C6.out.mono ?_
  rintro e w7 ⟨a, cap, rfl, b7⟩
  go_wp2
  go_ret
  exact ⟨rfl, (((((b1.trans b2).trans b3).trans b4).trans b5).trans b6).trans (b7.mono (by have := b1.size; have := b2.size; have := b3.size; have := b4.size; have := b5.size; have := b6.size; omega))⟩
end Go.Proofs.Ytnjoojffefhgpaa

namespace Go.Proofs.Ytnjoojffefhgpaa
open Go.Conc Go.RowKit

abbrev nO : ByteArray := ⟨#[111]⟩
end Go.Proofs.Ytnjoojffefhgpaa

namespace Go.Proofs.Ytnjoojffefhgpaa
open Go.Conc Go.RowKit

theorem range_one (s : ByteArray) (t : Int) (ck n u : Nat) (hn : n ≤ s.size) : rangeR nO (n : Int) (u : Int) [⟨nO, s, t, ck⟩] = (s.extract n (n + u), 0) := by
  unfold rangeR
  rw [show lookO nO [⟨nO, s, t, ck⟩] = some ⟨nO, s, t, ck⟩ by simp [lookO]]
  simp only
  rw [if_neg (by omega)]
  unfold partB
  simp
theorem range_past (s : ByteArray) (t : Int) (ck n u : Nat) (hn : s.size < n) : rangeR nO (n : Int) (u : Int) [⟨nO, s, t, ck⟩] = (ByteArray.empty, 1) := by
  unfold rangeR
  rw [show lookO nO [⟨nO, s, t, ck⟩] = some ⟨nO, s, t, ck⟩ by simp [lookO]]
  simp only
  rw [if_pos (by omega)]
end Go.Proofs.Ytnjoojffefhgpaa

namespace Go.Proofs.Ytnjoojffefhgpaa
open Go.Conc Go.RowKit

set_option maxHeartbeats 1000000 in
set_option maxRecDepth 100000 in
/-- List, where the fuse lets it. -/
theorem blist_go (B k f c m : Nat) (os : List Ob) (A : List Ft) (p : ByteArray) (w : World) (h : Bk k f c m os A w) (hB : BHome B k f c m) (hfew : os.length ≤ 1000) (hw : (tryL A).1.1 = true) :
    Calls Try.prog 42 #[.pointer (some ⟨k, 0, none⟩), .string p] w fun e w' => ∃ v ds, e = .returned (.tuple #[v, .int .i64 0]) ∧
      ds.Perm (infsO p os) ∧ ds.Pairwise (fun x y => ¬ y.name.data.toList < x.name.data.toList) ∧ Sl w' w.heap.size 3 v ds.length (infc ds) ∧ Bk k f c m os (tryL A).2 w' ∧ Below B w w' := by
  obtain ⟨ck, h⟩ := h
  have HL := Lib.hid (look_any k f c m os A ck w h)
  rw [hw] at HL
  have HK := Lib.hid (fun W D => blooks k f c m os (tryL A).2 p W D hfew)
  go_enter Try.func42, Try.ntmps42
  go_wp2_with fail
  refine HL.out.mono ?_
  rintro e w1 ⟨rfl, n1⟩
  have C := Lib.hid (HK.out w1 n1.1)
  go_wp2_with fail
  refine C.out.mono ?_
  rintro e w2 ⟨v, ds, rfl, hp, hs, hsl, b2⟩
  go_wp2
  go_ret2
  have hk := h.klt
  exact ⟨v, ds, rfl, hp, hs, hsl.mono n1.2.size, Bk.below n1.1 b2, (n1.below h hB).trans (b2.mono (by have := hB.k; have := n1.2.size; omega))⟩
set_option maxHeartbeats 1000000 in
set_option maxRecDepth 100000 in
/-- List, where it fails. -/
theorem blist_fail (B k f c m : Nat) (os : List Ob) (A : List Ft) (p : ByteArray) (w : World) (h : Bk k f c m os A w) (hB : BHome B k f c m) (hw : (tryL A).1.1 = false) :
    Calls Try.prog 42 #[.pointer (some ⟨k, 0, none⟩), .string p] w fun e w' => e = .returned (.tuple #[.slice none 0 0, .int .i64 8]) ∧ Bk k f c m os (tryL A).2 w' ∧ Below B w w' := by
  obtain ⟨ck, h⟩ := h
  have HL := Lib.hid (look_any k f c m os A ck w h)
  rw [hw] at HL
  go_enter Try.func42, Try.ntmps42
  go_wp2_with fail
  refine HL.out.mono ?_
  rintro e w1 ⟨rfl, n1⟩
  go_wp2
  go_ret2
  exact ⟨rfl, n1.1, n1.below h hB⟩

/-- BucketLast's object behind i rounds. -/
def lastO (z0 : List ByteArray) (z1 : List Int) (ck : Nat) : Nat → List Ob
  | 0 => []
  | i + 1 => [⟨nO, cutB (z0.getD i ByteArray.empty) 60, z1.getD i 0, ck⟩]
theorem set_last (z0 : List ByteArray) (z1 : List Int) (ck b i : Nat) : ∃ b', setO nO (cutB (z0.getD i ByteArray.empty) 60) (z1.getD i 0) b (lastO z0 z1 ck i) = lastO z0 z1 b' (i + 1) := by
  cases i with
  | zero => exact ⟨b, rfl⟩
  | succ i => exact ⟨ck, by simp [lastO, setO]⟩

end Go.Proofs.Ytnjoojffefhgpaa

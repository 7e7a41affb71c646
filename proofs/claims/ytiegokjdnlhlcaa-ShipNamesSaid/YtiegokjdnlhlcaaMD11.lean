/- Layer 4: the names that begin so, before they are sorted. -/
import Derived.Test.YtiegokjdnlhlcaaMD9
import Derived.Test.YtiegokjdnlhlcaaMSl3
import Derived.Test.YtiegokjdnlhlcaaMSrt
import Derived.Sort.KeysCollected
namespace Go.Proofs.Ytiegokjdnlhlcaa
open Go.Conc Go.RowKit
open Go.Proofs (encStr)
open Go.ChangeMaps (setBlock)

abbrev nm (x : Fl) : List UInt8 := x.name.data.toList
def namesF (p : ByteArray) (vs : List Fl) : List (List UInt8) := (vs.map nm).filter (pre p.data.toList)
def iterSeen (r : Nat) (w : World) : Nat := match w.heap[r]? with | some (.mapIter _ _ seen _) => seen.size | _ => 0

theorem borns_inj : ∀ (fs : List Fl), (fs.map (·.born)).Nodup → ∀ x ∈ fs, ∀ y ∈ fs, x.born = y.born → x = y
  | [], _, x, hx, _, _, _ => by cases hx
  | e :: es, h, x, hx, y, hy, he => by
    rw [List.map_cons, List.nodup_cons] at h
    rcases List.mem_cons.1 hx with hxe | hx
    · rcases List.mem_cons.1 hy with hye | hy
      · rw [hxe, hye]
      · exact absurd (show e.born ∈ es.map (·.born) from List.mem_map.2 ⟨y, hy, by rw [← he, hxe]⟩) h.1
    · rcases List.mem_cons.1 hy with hye | hy
      · exact absurd (show e.born ∈ es.map (·.born) from List.mem_map.2 ⟨x, hx, by rw [he, hye]⟩) h.1
      · exact borns_inj es h.2 x hx y hy he
theorem nodup_of_map {α β : Type} (f : α → β) : ∀ l : List α, (l.map f).Nodup → l.Nodup
  | [], _ => List.nodup_nil
  | e :: es, h => by
    rw [List.map_cons, List.nodup_cons] at h
    rw [List.nodup_cons]
    exact ⟨fun hm => h.1 (List.mem_map_of_mem hm), nodup_of_map f es h.2⟩
theorem borns_perm (fs vs : List Fl) (h : (fs.map (·.born)).Nodup) (hv : vs.Nodup) (hsub : ∀ x ∈ vs, x ∈ fs) (hall : ∀ x ∈ fs, x.born ∈ vs.map (·.born)) : vs.Perm fs := by
  refine (List.perm_ext_iff_of_nodup hv (nodup_of_map _ fs h)).2 fun x => ⟨hsub x, fun hx => ?_⟩
  obtain ⟨y, hy, he⟩ := List.mem_map.1 (hall x hx)
  rw [borns_inj fs h x hx y (hsub y hy) he.symm]
  exact hy
abbrev ents (fs : List Fl) : Array MapEntry := ((fs.map Fl.en).map En.ent).toArray
theorem left_none (fs vs : List Fl) (h : (leftOf (ents fs) (vs.map (·.born)).toArray).size = 0) : ∀ x ∈ fs, x.born ∈ vs.map (·.born) := by
  intro x hx
  have h0 := Array.eq_empty_of_size_eq_zero h
  unfold leftOf at h0
  rw [Array.filter_eq_empty_iff] at h0
  have := h0 x.en.ent (by simp only [ents]; rw [List.mem_toArray]; exact List.mem_map.2 ⟨x.en, List.mem_map.2 ⟨x, hx, rfl⟩, rfl⟩)
  simpa [Fl.en, En.ent] using this
theorem left_some (fs vs : List Fl) (e : MapEntry) (h : e ∈ (leftOf (ents fs) (vs.map (·.born)).toArray).toList) : ∃ x ∈ fs, e = x.en.ent ∧ x.born ∉ vs.map (·.born) := by
  unfold leftOf at h
  rw [Array.mem_toList_iff, Array.mem_filter] at h
  obtain ⟨h1, h2⟩ := h
  simp only [ents, List.mem_toArray, List.mem_map] at h1
  obtain ⟨y, ⟨x, hx, rfl⟩, rfl⟩ := h1
  exact ⟨x, hx, rfl, by simpa [Fl.en, En.ent] using h2⟩
theorem nat_len : ∀ (a b : List Nat), a.Nodup → (∀ x ∈ a, x ∈ b) → a.length ≤ b.length
  | [], b, _, _ => Nat.zero_le _
  | x :: a, b, hn, hs => by
    rw [List.nodup_cons] at hn
    have hx := hs x List.mem_cons_self
    have := nat_len a (b.erase x) hn.2 fun y hy => (List.mem_erase_of_ne (fun e => hn.1 (by rw [← e]; exact hy))).2 (hs y (List.mem_cons_of_mem _ hy))
    rw [List.length_erase_of_mem hx] at this
    have hpos : 0 < b.length := List.length_pos_of_mem hx
    rw [List.length_cons]
    omega
theorem borns_next (vs : List Fl) (hv : (vs.map (·.born)).Nodup) (x : Fl) (hn : x.born ∉ vs.map (·.born)) : ((vs ++ [x]).map (·.born)).Nodup := by
  rw [List.map_append, List.nodup_append]
  refine ⟨hv, by simp, fun a ha b hb => ?_⟩
  rw [List.map_singleton, List.mem_singleton] at hb
  rintro rfl
  exact hn (hb ▸ ha)
theorem borns_len (fs vs : List Fl) (hv : (vs.map (·.born)).Nodup) (hsub : ∀ x ∈ vs, x ∈ fs) (x : Fl) (hx : x ∈ fs) (hn : x.born ∉ vs.map (·.born)) : vs.length < fs.length := by
  have := nat_len _ (fs.map (·.born)) (borns_next vs hv x hn) fun y hy => by
    obtain ⟨z, hz, rfl⟩ := List.mem_map.1 hy
    rw [List.mem_append, List.mem_singleton] at hz
    rcases hz with hz | rfl
    · exact List.mem_map.2 ⟨z, hsub z hz, rfl⟩
    · exact List.mem_map.2 ⟨z, hx, rfl⟩
  simp at this
  omega

theorem get_str (ss : List (List UInt8)) (j : Nat) (hj : j < ss.length) : (ss.map encStr)[j]? = some (encStr ss.toArray[j]!) := by
  simp [hj]
/-- Names sorted where they lie. -/
theorem sort_any (v : Value) (ss : List (List UInt8)) (base : Nat) (w : World) (hs : Sl w base 1 v ss.length (ss.map encStr)) (hlen : ss.length ≤ 1000) :
    Calls Try.prog 32 #[v] w fun e w' => e = .returned (.tuple #[]) ∧ Sl w' base 1 v ss.length ((ss.mergeSort leB).map encStr) ∧ Turn (fun k => v.ownBlock = some k) w w' := by
  rcases hs.2 with ⟨rfl, h0⟩ | ⟨g, off, cap, rfl, hb, hg, hnc, hcm, hfree, hcell⟩
  · have hnil : ss = [] := List.eq_nil_of_length_eq_zero h0
    subst hnil
    refine (slices_Sort_string_none none 0 w).mono ?_
    rintro e w' ⟨rfl, rfl⟩
    exact ⟨rfl, by simpa using hs, Turn.refl _ _⟩
  · have hH : Sort.Holds encStr w g off ss.toArray := by
      intro j hj
      have hj' : j < ss.length := by simpa using hj
      exact ⟨(hcell j (by omega)).trans (get_str ss j hj'), (hfree j (by omega)).2⟩
    refine (slices_Sort_string g off cap ss w hH hg (by omega)).mono ?_
    rintro e w' ⟨rfl, n, os, rfl⟩
    obtain ⟨ts, hts⟩ : ∃ ts, ts = ss.mergeSort leB := ⟨_, rfl⟩
    have htl : ts.length = ss.length := by rw [hts]; exact List.length_mergeSort ss
    rw [show (ss.mergeSort fun x y => decide (x ≤ y)) = ts from hts.symm]
    have hg' : g < (Sort.putRow encStr (Sort.ahead w n) g off ts.toArray).heap.size := by simpa using hg
    have hcells : ∀ j, j < ts.length → (Sort.grow (Sort.putRow encStr (Sort.ahead w n) g off ts.toArray) os).cell? ⟨g, off + j, none⟩ = some (encStr ts.toArray[j]!) := fun j hj => by
      rw [Sort.cell?_grow _ _ _ hg']
      exact Sort.cell?_putRow encStr (Sort.ahead w n) g off ss.toArray ts.toArray hH (by simp [htl]) j (by simpa using hj)
    refine ⟨rfl, ⟨by simp [htl], .inr ⟨g, off, cap, rfl, hb, by simp; omega, hnc, hcm, fun j hj => ⟨?_, ?_⟩, fun j hj => ?_⟩⟩, rfl, rfl, rfl, by simp, fun k hk hne => ?_⟩
    · by_cases hjt : j < ts.length
      · rw [hcells j hjt]; rfl
      · rw [Sort.cell?_grow _ _ _ hg', Sort.cell?_putRow_other _ _ _ _ _ _ (.inr (.inr (by simp; omega)))]
        exact (hfree j hj).1
    · rw [Sort.frozen?_grow _ _ _ hg', Sort.frozen?_putRow]
      exact (hfree j hj).2
    · rw [hcells j (by omega)]
      exact (get_str ts j (by omega)).symm
    · rw [Sort.heap_grow_old _ _ (by simpa using hk)]
      have hgk : g ≠ k := fun e => hne (by rw [e]; rfl)
      simp [Sort.putRow, Sort.mapBlock, Sort.ahead, Array.getElem?_modify, hgk]

/-- The names met so far. -/
def Met (m : Nat) (fs : List Fl) (clock : Nat) (p : ByteArray) (w : World) (v : Value) (wr : World) : Prop :=
  ∃ (vs : List Fl) (c0 : Nat), (vs.map (·.born)).Nodup ∧ (∀ x ∈ vs, x ∈ fs) ∧ wr.heap[w.heap.size]? = some (.mapIter (some m) clock (vs.map (·.born)).toArray c0) ∧ clock ≤ c0 ∧
    Sl wr (w.heap.size + 1) 1 v (namesF p vs).length ((namesF p vs).map encStr) ∧ Below w.heap.size w wr ∧ w.heap.size < wr.heap.size

theorem bi_str : (Try.prog.info? 9).map (fun i => (i.zero, i.size, i.bytes)) = some (some (.string ⟨#[]⟩), 1, 16) := by kernel_rfl

set_option maxHeartbeats 1000000 in
set_option maxRecDepth 100000 in
theorem list_any (base d f c m : Nat) (room : Int) (fs : List Fl) (A : List Ft) (clock : Nat) (p : ByteArray) (w : World) (h : DiskAt base d f c m room fs A clock w) (hfew : fs.length ≤ 1000) :
    Calls Try.prog 16 #[.pointer (some ⟨d, 0, none⟩), .string p] w fun e w' => ∃ v, e = .returned v ∧
      Sl w' w.heap.size 1 v (namesF p fs).length (((namesF p fs).mergeSort leB).map encStr) ∧ Below w.heap.size w w' := by
  have c3 := h.c3
  have hrg := run_range_map (P := Try.prog) w 30 9 53 m (ents fs) clock Try.underlying30 h.map
  obtain ⟨i0, hi, hz0, hz1, hz2⟩ := info_parts bi_str
  have Hz := Lib.hid hz0; have Hs := Lib.hid hz1; have Hb := Lib.hid hz2; have Hi := Lib.hid hi
  clear hz0 hz1 hz2 hi
  have hml : m < w.heap.size := Nat.lt_of_lt_of_le h.mlt h.hb
  have HP := fun s W => Lib.hid (has_any s p W)
  have HHP := Lib.hid HP
  clear HP
  go_enter Try.func16, Try.ntmps16
  go_wp2
  go_loopw [5] (fun v wr => Met m fs clock p w v wr) (fun _ wr => fs.length - iterSeen w.heap.size wr)
  case atStart =>
    exact ⟨[], clock, by simp, by simp, heap_alloc_new w _, Nat.le_refl _, Sl.nil _ _ _, (Below.refl _ w).alloc (Nat.le_refl _) _, by simp⟩
  case round =>
    obtain ⟨vs, c0, hvn, hsub, hit, hcc, hsl, hbel, hlt⟩ := hrel
    have hmr : wr.heap[m]? = some (.map (ents fs) clock) := (hbel.block m hml).trans h.map
    have hold : ∀ x ∈ (ents fs).toList, x.born < clock := fun e he => by
      simp only [List.mem_map] at he
      obtain ⟨y, ⟨x, hx, rfl⟩, rfl⟩ := he
      exact h.stamps.1 x hx
    rcases run_next_at (P := Try.prog) wr 0 w.heap.size m clock c0 (vs.map (·.born)).toArray (ents fs) clock hit hmr hold hcc with ⟨h0, hn⟩ | ⟨e, hmem, w1, hw1, hn⟩
    · have hall := left_none fs vs h0
      have hperm : (namesF p vs).Perm (namesF p fs) := ((borns_perm fs vs h.stamps.2 (nodup_of_map _ vs hvn) hsub hall).map nm).filter _
      have hk1 : (namesF p vs).length ≤ 1000 := by
        rw [hperm.length_eq]
        exact Nat.le_trans (List.length_filter_le _ _) (by simpa using hfew)
      have SC := sort_any u5 (namesF p vs) (w.heap.size + 1) wr hsl hk1
      rw [Go.mergeSort_of_perm hperm, hperm.length_eq] at SC
      have HSC := Lib.hid SC
      obtain ⟨hsl1, hsl2⟩ := And.intro hsl.lt hbel
      clear SC hperm hall hsub hvn hk1 hit hold hmr h0
      go_wp2_with fail
      refine HSC.out.mono ?_
      rintro e w2 ⟨rfl, hs2, t2⟩
      go_wp2
      go_ret
      exact ⟨_, rfl, hs2.mono (by omega), hbel.trans (t2.below (by omega) fun k hk => by have := (hsl1 k hk).1; omega)⟩
    · obtain ⟨x, hx, rfl, hxn⟩ := left_some fs vs e hmem
      obtain ⟨W1, hW1⟩ : ∃ W1, W1 = setBlock w1 w.heap.size (.mapIter (some m) clock ((vs.map (·.born)).toArray.push x.en.ent.born) clock) := ⟨_, rfl⟩
      rw [← hW1] at hn
      have z1 : W1.heap.size = wr.heap.size := by rw [hW1]; rcases hw1 with rfl | rfl <;> simp [setBlock]
      have hr1 : W1.heap[w.heap.size]? = some (.mapIter (some m) clock ((vs.map (·.born)).toArray.push x.en.ent.born) clock) := by rw [hW1]; rcases hw1 with rfl | rfl <;> simp [setBlock, hlt]
      have hb1 : ∀ k, k ≠ w.heap.size → W1.heap[k]? = wr.heap[k]? := fun k hk => by
        rw [hW1]
        rcases hw1 with rfl | rfl
        · simp [setBlock, Array.getElem?_setIfInBounds_ne (Ne.symm hk)]
        · simp [setBlock, Array.getElem?_setIfInBounds_ne (Ne.symm hk)]; rfl
      have hbel1 : Below w.heap.size w W1 := by
        refine ⟨?_, ?_, ?_, by omega, fun k hk => (hb1 k (by omega)).trans (hbel.block k hk)⟩
        all_goals rw [hW1]; rcases hw1 with rfl | rfl
        · exact hbel.os
        · exact hbel.os
        · exact hbel.tape
        · exact hbel.tape
        · exact hbel.output
        · exact hbel.output
      have hen := run_entry_at (P := Try.prog) W1 w.heap.size m clock (vs.map (·.born)).toArray (ents fs) clock x.en.ent hr1 ((hb1 m (by omega)).trans hmr) (by simp only; exact List.mem_map.2 ⟨x.en, List.mem_map.2 ⟨x, hx, rfl⟩, rfl⟩) (by
        have := h.stamps.2
        simpa [ents, List.map_map, Function.comp_def, Fl.en, En.ent] using this)
      have hs1 : Sl W1 (w.heap.size + 1) 1 u5 (namesF p vs).length ((namesF p vs).map encStr) := hsl.same (by omega) fun k hk => hb1 k (by have := (hsl.lt k hk).1; omega)
      have hlen := borns_len fs vs hvn hsub x hx hxn
      have hitL : ∀ W2 : World, W2.heap[w.heap.size]? = W1.heap[w.heap.size]? → iterSeen w.heap.size W2 = vs.length + 1 := fun W2 h2 => by
        unfold iterSeen; rw [h2, hr1]; simp
      have hitO : iterSeen w.heap.size wr = vs.length := by unfold iterSeen; rw [hit]; simp
      have hpush : (vs.map (·.born)).toArray.push x.en.ent.born = ((vs ++ [x]).map (·.born)).toArray := by simp [Fl.en, En.ent]
      rw [hpush] at hr1
      simp only [Fl.en, En.ent] at hn hen
      have hname : ∀ b, pre p.data.toList (nm x) = b → namesF p (vs ++ [x]) = namesF p vs ++ (if b then [nm x] else []) := fun b hb => by
        unfold namesF; rw [List.map_append, List.filter_append]; congr 1; simp only [List.map_singleton, List.filter_cons, List.filter_nil, hb]
      have hsub1 : ∀ y ∈ vs ++ [x], y ∈ fs := fun y hy => by
        rw [List.mem_append, List.mem_singleton] at hy
        rcases hy with hy | rfl
        · exact hsub y hy
        · exact hx
      have hvn1 := borns_next vs hvn x hxn
      clear hW1 hw1 hold hmem hit hmr hsl
      cases hpre : pre p.data.toList (nm x)
      · rw [hpre] at hname
        have HPX := Lib.hid hname
        have C := (HHP.out x.name W1).out
        rw [show pre p.data.toList x.name.data.toList = false from hpre] at C
        go_wp2_with fail
        refine C.mono ?_
        rintro e w2 ⟨rfl, rfl⟩
        go_wp2
        refine ⟨⟨vs ++ [x], clock, hvn1, hsub1, hr1, Nat.le_refl _, ?_, hbel1, by omega⟩, by rw [hitL _ rfl, hitO]; omega⟩
        rw [HPX.out false rfl]
        simpa using hs1
      · rw [hpre] at hname
        have HPX := Lib.hid hname
        have C := (HHP.out x.name W1).out
        rw [show pre p.data.toList x.name.data.toList = true from hpre] at C
        have hk1 : (namesF p vs).length ≤ vs.length := by unfold namesF; exact Nat.le_trans (List.length_filter_le _ _) (by simp)
        obtain ⟨K, hK⟩ : ∃ K, K = (namesF p vs).length := ⟨_, rfl⟩
        rw [← hK] at hk1 hs1
        have hs2 := hs1.alloc (.cells #[.string x.name] 9)
        have hs3 : Sl (W1.alloc (.cells #[.string x.name] 9)) (w.heap.size + 1) 1 (.slice (some ⟨wr.heap.size, 0, none⟩) 1 1) 1 [.string x.name] := by
          rw [← z1]; exact Sl.lit W1 (w.heap.size + 1) 1 1 #[.string x.name] _ (by omega) (by decide) rfl
        have n1 : K + 1 ≤ maxLen := by unfold maxLen; omega
        have n2 : (K + 1) * 16 ≤ 140737488355328 := by omega
        have n3 : w.heap.size + 1 ≤ (W1.alloc (.cells #[.string x.name] 9)).heap.size := by simp; omega
        have HK := Lib.hid hK
        have HX := Lib.hid hsub1
        have HV := Lib.hid hvn1
        clear hK hsub1 hvn1 hsub hvn hxn
        have hone : ∀ v ∈ [Value.string x.name], v.oneCell' = true := by intro v hv; rw [List.mem_singleton] at hv; subst hv; rfl
        go_wp2_with fail
        refine C.mono ?_
        rintro e w2 ⟨rfl, rfl⟩
        go_wp2_with (at_builtin; refine wpList_append_sl2 _ rfl _ _ 49 rfl (w.heap.size + 1) 9 i0 (.string ⟨#[]⟩) 1 16 Try.underlying49 Hi.out Hz.out Hs.out Hb.out rfl (by decide) _ K _ rfl hs2 (w.heap.size + 1) _ 1 _ rfl hs3 hone n1 n2 n3 ?_; intro v' w3 hx3)
        refine ⟨⟨vs ++ [x], clock, HV.out, HX.out, ?_, Nat.le_refl _, ?_, ?_, ?_⟩, ?_⟩
        · rw [hx3.grown.block w.heap.size (by simp; omega) (fun e => by have := (hs2.lt w.heap.size e.symm).1; omega), Below.heap_alloc _ _ _ (by omega)]
          exact hr1
        · rw [HPX.out true rfl]
          have := hx3.now
          rw [HK.out] at this
          simpa using this
        · exact (hbel1.alloc (by omega) _).trans (hx3.below (by omega) (by simp; omega))
        · have := hx3.grown.size
          simp at this
          omega
        · rw [hitL w3 (by
            rw [hx3.grown.block w.heap.size (by simp; omega) (fun e => by have := (hs2.lt w.heap.size e.symm).1; omega), Below.heap_alloc _ _ _ (by omega)]), hitO]
          omega
end Go.Proofs.Ytiegokjdnlhlcaa

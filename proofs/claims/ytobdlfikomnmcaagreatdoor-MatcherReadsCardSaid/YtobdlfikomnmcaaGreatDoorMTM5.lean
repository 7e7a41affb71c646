/- Layer 13: Parse. -/
import Derived.Test.YtobdlfikomnmcaaGreatDoorMTM4
import Derived.Test.YtobdlfikomnmcaaGreatDoorML8
namespace Go.Proofs.YtobdlfikomnmcaaGreatDoor
open Go.RowKit Go.Lib
set_option linter.unusedVariables false
attribute [local go_sem] Oper.semAt_some

theorem Asc.mem {s : List UInt8} (h : Asc s) : ∀ b ∈ s, b.toNat < 128 := fun b hb => by
  obtain ⟨j, hj⟩ := List.getElem?_of_mem hb
  exact h j b hj
theorem Asc.of_mem {s : List UInt8} (h : ∀ b ∈ s, b.toNat < 128) : Asc s := fun j b hb => h b (List.mem_of_getElem? hb)
theorem parts_sub (c : UInt8) : ∀ (l p : List UInt8), p ∈ parts c l → ∀ b ∈ p, b ∈ l
  | [], p, h => by simp [parts] at h; subst h; simp
  | x :: l, p, h => by
    have ih := parts_sub c l
    unfold parts at h
    split at h
    · rcases List.mem_cons.1 h with rfl | h
      · simp
      · exact fun b hb => List.mem_cons_of_mem _ (ih p h b hb)
    · split at h
      · rw [List.mem_singleton] at h
        subst h
        intro b hb; rw [List.mem_singleton] at hb; subst hb; exact List.mem_cons_self
      · rename_i q qs hq
        rcases List.mem_cons.1 h with rfl | h
        · intro b hb
          rcases List.mem_cons.1 hb with rfl | hb
          · exact List.mem_cons_self
          · exact List.mem_cons_of_mem _ (ih q (by rw [hq]; simp) b hb)
        · exact fun b hb => List.mem_cons_of_mem _ (ih p (by rw [hq]; simp [h]) b hb)
theorem Asc.parts {c : UInt8} {s p : List UInt8} (h : Asc s) (hp : p ∈ parts c s) : Asc p := Asc.of_mem fun b hb => h.mem b (parts_sub c s p hp b hb)
theorem Asc.take {s : List UInt8} (h : Asc s) (n : Nat) : Asc (s.take n) := Asc.of_mem fun b hb => h.mem b (List.mem_of_mem_take hb)
theorem Asc.drop {s : List UInt8} (h : Asc s) (n : Nat) : Asc (s.drop n) := Asc.of_mem fun b hb => h.mem b (List.mem_of_mem_drop hb)
/-- What a part's matcher is made of. -/
theorem mrOf_fit (s : List UInt8) (hs : s.length ≤ 100000) : (mrOf s).k ≤ 4 ∧ (mrOf s).vs.length ≤ 100001 ∧ (mrOf s).n.length < 1000000 ∧ ∀ x ∈ (mrOf s).vs, x.length < 1000000 := by
  unfold mrOf
  split
  · exact ⟨by simp, by simp, by simp, fun x hx => by cases hx⟩
  · cases hf : firstK (s.drop (Lib.indexAny s sgs).toNat) ks4 with
    | none => exact ⟨by simp, by simp, by simp, fun x hx => by cases hx⟩
    | some k =>
      have hk : k ∈ ks4 := by
        revert hf
        generalize s.drop (Lib.indexAny s sgs).toNat = r
        intro hf
        have : ∀ l, firstK r l = some k → k ∈ l := by
          intro l
          induction l with
          | nil => intro h; cases h
          | cons j l ih =>
            intro h
            unfold firstK at h
            split at h
            · cases h; exact List.mem_cons_self
            · exact List.mem_cons_of_mem _ (ih h)
        exact this _ hf
      have hk4 : k ≤ 4 := by simp [ks4] at hk; omega
      simp only
      refine ⟨hk4, ?_, by simp; omega, fun x hx => ?_⟩
      · have := parts_count 124 ((s.drop (Lib.indexAny s sgs).toNat).drop (sgn k).length)
        have h2 : ((s.drop (Lib.indexAny s sgs).toNat).drop (sgn k).length).length ≤ s.length := by simp
        omega
      · have h1 := parts_len 124 _ x hx
        have h2 : ((s.drop (Lib.indexAny s sgs).toNat).drop (sgn k).length).length ≤ s.length := by simp
        omega
/-- Matchers in a slice: with where their values lie. -/
def mcs (l : List (Mr × Value)) : List Value := l.flatMap fun p => [.int .i64 p.1.k, .string (bs p.1.n), p.2]
theorem mcs_len (l : List (Mr × Value)) : (mcs l).length = l.length * 3 := by
  induction l with
  | nil => rfl
  | cons a l ih => simp only [mcs, List.flatMap_cons, List.length_append, List.length_cons, List.length_nil] at ih ⊢; omega
def MsO (W : World) (B : Nat) (v : Value) (l : List (Mr × Value)) : Prop := Sl W B 3 v l.length (mcs l) ∧ ∀ p ∈ l, Sl W B 1 p.2 p.1.vs.length (txs p.1.vs) ∧ ∀ k, p.2.ownBlock = some k → v.ownBlock ≠ some k

/-- Parse's own cells between two rounds. -/
def ParM (w : World) (pre : List (List UInt8)) (W : World) : Prop :=
  ∃ l v, l.map (·.1) = pre.map mrOf ∧ MsO W (w.heap.size + 8) v l ∧
    W.cell? ⟨w.heap.size, 0, none⟩ = some (.slice none 0 0) ∧ W.frozen? ⟨w.heap.size, 0, none⟩ = false ∧
    W.cell? ⟨w.heap.size + 1, 0, none⟩ = some (.int .i64 0) ∧ W.frozen? ⟨w.heap.size + 1, 0, none⟩ = false ∧
    W.cell? ⟨w.heap.size + 2, 0, none⟩ = some v ∧ W.frozen? ⟨w.heap.size + 2, 0, none⟩ = false ∧
    Below w.heap.size w W ∧ w.heap.size + 8 ≤ W.heap.size
theorem MsO.same {W W' : World} {B : Nat} {v : Value} {l : List (Mr × Value)} (h : MsO W B v l) (hz : W.heap.size ≤ W'.heap.size) (hk : ∀ k, B ≤ k → k < W.heap.size → W'.heap[k]? = W.heap[k]?) : MsO W' B v l :=
  ⟨h.1.same hz fun k e => hk k (h.1.lt k e).1 (h.1.lt k e).2, fun p hp => ⟨(h.2 p hp).1.same hz fun k e => hk k ((h.2 p hp).1.lt k e).1 ((h.2 p hp).1.lt k e).2, (h.2 p hp).2⟩⟩
theorem ParM.off {w W W' : World} {pre : List (List UInt8)} {lo hi : Nat} (h : ParM w pre W) (t : OffB lo hi W W') (hl : lo = w.heap.size + 3) (hh : hi = w.heap.size + 8) : ParM w pre W' := by
  obtain ⟨l, v, h1, h3, h4, h5, h6, h7, h8, h9, h10, h11⟩ := h
  subst hl; subst hh
  refine ⟨l, v, h1, h3.same t.size fun k hb hk => t.block k hk (by omega), ?_, ?_, ?_, ?_, ?_, ?_, t.below h10 (by omega) (by omega), Nat.le_trans h11 t.size⟩
  · exact (t.cell (by show w.heap.size < _; omega) (by show ¬ (_ ≤ w.heap.size ∧ _); omega)).trans h4
  · exact (t.frozen (by show w.heap.size < _; omega) (by show ¬ (_ ≤ w.heap.size ∧ _); omega)).trans h5
  · exact (t.cell (by show w.heap.size + 1 < _; omega) (by show ¬ (_ ≤ w.heap.size + 1 ∧ _); omega)).trans h6
  · exact (t.frozen (by show w.heap.size + 1 < _; omega) (by show ¬ (_ ≤ w.heap.size + 1 ∧ _); omega)).trans h7
  · exact (t.cell (by show w.heap.size + 2 < _; omega) (by show ¬ (_ ≤ w.heap.size + 2 ∧ _); omega)).trans h8
  · exact (t.frozen (by show w.heap.size + 2 < _; omega) (by show ¬ (_ ≤ w.heap.size + 2 ∧ _); omega)).trans h9
theorem zc_matcher : (Tryz.prog.info? 24).map (fun i => (i.zero, i.size, i.bytes)) = some (some (.agg #[.int .i64 0, .string ByteArray.empty, .slice none 0 0]), 3, 48) := by kernel_rfl

set_option maxRecDepth 100000 in
set_option maxHeartbeats 4000000 in
theorem parse13_any (s : List UInt8) (w : World) (hl : s.length ≤ 100000) (hne : s ≠ []) (hok : ∀ p ∈ parts 44 s, mOk (mrOf p) = true) : Calls Tryz.prog 5 #[.string (bs s)] w fun e w' =>
    ∃ v l, e = .returned (.tuple #[v, .int .i64 0]) ∧ l.map (·.1) = (parts 44 s).map mrOf ∧ MsO w' w.heap.size v l ∧ Below w.heap.size w w' := by
  have hT := bs_toList
  have hse : (s == []) = false := by rw [beq_eq_false_iff_ne]; exact hne
  obtain ⟨i0, hi, hz0, hz1, hz2⟩ := info_parts zc_matcher
  have Hz := Lib.hid hz0; have Hs := Lib.hid hz1; have Hb := Lib.hid hz2; have Hi := Lib.hid hi
  clear hz0 hz1 hz2 hi
  refine (callsIn_wide (n := 5)).1 ?_
  refine callsIn_of_wp_marks Tryz.func5 rfl trivial ?_ rfl
  simp only [Tryz.ntmps5, List.size_toArray, List.length_cons, List.length_nil, Nat.reduceAdd, Nat.reduceSub, Array.replicate_succ, Array.replicate_zero, List.push_toArray, List.append_toArray, List.nil_append, List.cons_append]
  gi_wp2
  refine ⟨trivial, ?_⟩
  refine (callsIn_wide.2 (seq_any _ _ _)).mono ?_
  rintro e w1 ⟨rfl, rfl⟩
  gi_wp2
  obtain ⟨V, hV⟩ : ∃ V, V = ((((((w.alloc (.cells #[.slice none 0 0] 26)).alloc (.cells #[.int .i64 0] 27)).alloc (.cells #[.slice none 0 0] 26)).alloc (.cells #[.string (bs s)] 9)).alloc (.cells #[.string ⟨#[44]⟩] 9)).alloc (.cells #[.int .i64 0] 3)) := ⟨_, rfl⟩
  have hz : V.heap.size = w.heap.size + 6 := by rw [hV]; simp
  obtain ⟨g0, g1, g2, g3, g4, g5⟩ := heap6 w (.cells #[.slice none 0 0] 26) (.cells #[.int .i64 0] 27) (.cells #[.slice none 0 0] 26) (.cells #[.string (bs s)] 9) (.cells #[.string ⟨#[44]⟩] 9) (.cells #[.int .i64 0] 3)
  rw [← hV] at g0 g1 g2 g3 g4 g5
  have bV : Below w.heap.size w V := by rw [hV]; exact ((((((Below.refl _ _).alloc (Nat.le_refl _) _).alloc (by simp only [World.size_alloc]; omega) _).alloc (by simp only [World.size_alloc]; omega) _).alloc (by simp only [World.size_alloc]; omega) _).alloc (by simp only [World.size_alloc]; omega) _).alloc (by simp only [World.size_alloc]; omega) _
  rw [← hV]
  have HV := Lib.hid hV
  clear hV
  have cell1 : ∀ (W : World) k v t, W.heap[k]? = some (.cells #[v] t) → W.cell? ⟨k, 0, none⟩ = some v ∧ W.frozen? ⟨k, 0, none⟩ = false := fun W k v t h => ⟨by simp [World.cell?, h], by simp [World.frozen?, h]⟩
  refine range_split (by omega) (w.heap.size + 3) 44 s rfl (by omega) (cell1 _ _ _ _ g3).1 (cell1 _ _ _ _ g3).2 (show V.cell? ⟨w.heap.size + 4, 0, none⟩ = some (.string (bs [44])) from (cell1 _ _ _ _ g4).1) (cell1 _ _ _ _ g5).1 (by omega) (ParM w) (fun _ _ => False)
    (fun pre W W' h t => h.off t rfl (by omega)) (fun pre W W' h t => h) ?h0
    (fun x => { tmps := #[.string (bs s), undef, .pointer (some ⟨w.heap.size, 0, none⟩), .pointer (some ⟨w.heap.size + 1, 0, none⟩), .pointer (some ⟨w.heap.size + 1 + 1, 0, none⟩), .string (bs x), undef, .string (bs s), .bool false, .string (bs s), .func (.func 41) #[] #[.pointer (some ⟨w.heap.size + 1 + 1 + 1 + 1, 0, none⟩), .pointer (some ⟨w.heap.size + 1 + 1 + 1, 0, none⟩), .pointer (some ⟨w.heap.size + 1 + 1 + 1 + 2, 0, none⟩)], .string (bs x), undef, undef, undef, undef, undef, undef, undef, undef, undef, undef], defers := [] }) ?assign ?body ?done ?stop
  case h0 =>
    intro o1 o2
    have c0 := cell1 _ _ _ _ g0; have c1 := cell1 _ _ _ _ g1; have c2 := cell1 _ _ _ _ g2
    have b2 : Below V.heap.size V ((V.alloc o1).alloc o2) := ((Below.refl _ _).alloc (Nat.le_refl _) _).alloc (by simp) _
    exact ⟨[], _, rfl, ⟨Sl.nil _ _ _, fun p hp => by cases hp⟩, (b2.cell (p := ⟨w.heap.size, 0, none⟩) (by show w.heap.size < _; omega)).trans c0.1, (b2.frozen (p := ⟨w.heap.size, 0, none⟩) (by show w.heap.size < _; omega)).trans c0.2,
      (b2.cell (p := ⟨w.heap.size + 1, 0, none⟩) (by show w.heap.size + 1 < _; omega)).trans c1.1, (b2.frozen (p := ⟨w.heap.size + 1, 0, none⟩) (by show w.heap.size + 1 < _; omega)).trans c1.2,
      (b2.cell (p := ⟨w.heap.size + 2, 0, none⟩) (by show w.heap.size + 2 < _; omega)).trans c2.1, (b2.frozen (p := ⟨w.heap.size + 2, 0, none⟩) (by show w.heap.size + 2 < _; omega)).trans c2.2, bV.trans (b2.mono (by omega)), by simp; omega⟩
  case assign =>
    intro l x W K hK
    gi_wp2
    exact hK
  case stop =>
    intro pre x t W hp hX
    exact hX.elim
  case done =>
    intro W hI hd hW
    obtain ⟨l, v, h1, h3, h4, h5, h6, h7, h8, h9, h10, h11⟩ := hI
    have hn1 : w.heap.size + 1 + 1 = w.heap.size + 2 := by omega
    rw [hn1]
    clear hn1
    have H1 := Lib.hid h1; have H3 := Lib.hid h3; have HB := Lib.hid h10
    obtain ⟨va, vc, rfl⟩ := h3.1.slice
    rw [hz] at hd
    have HF := Lib.hid (ret_par w W (.slice va l.length vc) 0 (by omega) h4 h6 hd h10)
    clear h1 h3 h10
    gi_wp2
    rw [hz]
    refine ⟨by simp, .inl ⟨_, _, rfl, run_takeDeferred HF.out.1, ?_⟩⟩
    refine ⟨.tuple #[(.slice va l.length vc), .int .i64 0], ?_, _, l, rfl, ?_, ?_, HF.out.2.2.2⟩
    · have q0 := HF.out.2.1; have q1 := HF.out.2.2.1
      simp [results, Tryz.results5, go_sem, q0, q1]
    · exact H1.out
    · have h3 := H3.out
      have hk : ∀ k, w.heap.size + 8 ≤ k → k < W.heap.size → ((((W.setCell ⟨w.heap.size, 0, none⟩ (.slice va l.length vc)).setCell ⟨w.heap.size + 1, 0, none⟩ (.int .i64 0)).putObj (w.heap.size + 6) (.deferred none))).heap[k]? = W.heap[k]? := fun k h1 h2 => by
        rw [World.putObj_heap_other (by omega), Below.heap_setCell _ _ _ _ (by show k ≠ w.heap.size + 1; omega), Below.heap_setCell _ _ _ _ (by show k ≠ w.heap.size; omega)]
      have h4 := h3.same (by simp [World.setCell]) hk
      exact ⟨h4.1.mono (by omega), fun p hp => ⟨(h4.2 p hp).1.mono (by omega), (h4.2 p hp).2⟩⟩
  case body =>
    intro l pre x t W hI hp hW
    have hxm : x ∈ parts 44 s := by rw [hp]; simp
    have hxl : x.length ≤ 100000 := Nat.le_trans (parts_len 44 s x hxm) hl
    have hpl : pre.length ≤ 100001 := by
      have := parts_count 44 s
      rw [hp] at this
      simp at this
      omega
    have hxo := hok x hxm
    obtain ⟨f1, f2, f3, f5⟩ := mrOf_fit x hxl
    have PP := Lib.hid (fun W => part13_any x W (by omega))
    have CH := Lib.hid (fun v W hr => show Calls Tryz.prog 10 #[mrV (mrOf x) v] W (fun e w' => e = .returned (.int .i64 0) ∧ Below W.heap.size W w') from by
      have := check13_any (mrOf x) v W hr f1 (by omega) f3 f5
      rw [hxo] at this
      exact this)
    clear f1 f2 f3 f5 hxo
    obtain ⟨ms, v, h1, h3, h4, h5, h6, h7, h8, h9, h10, h11⟩ := hI
    have hml : ms.length = pre.length := by have := congrArg List.length h1; simpa using this
    obtain ⟨va, vc, rfl⟩ := h3.1.slice
    have hn1 : w.heap.size + 1 + 1 = w.heap.size + 2 := by omega
    rw [hn1]
    obtain ⟨m, hm⟩ : ∃ m, m = mrOf x := ⟨_, rfl⟩
    rw [← hm] at PP CH
    have HM := Lib.hid hm
    clear hn1 hm
    gi_wp2
    refine ⟨trivial, ?_⟩
    refine (CallsIn.inRound l (callsIn_wide.2 (PP.out _))).mono ?_
    rintro e w1 ⟨v1, rfl, s1, b1⟩
    obtain ⟨a1, c1, rfl⟩ := s1.slice
    unfold mrV at CH ⊢
    have S1 := Lib.hid s1; have B1 := Lib.hid b1
    obtain ⟨nv, hnv⟩ : ∃ nv, nv = m.vs.length := ⟨_, rfl⟩
    rw [← hnv] at CH S1 ⊢
    have HNV := Lib.hid hnv
    clear s1 b1 PP hnv
    gi_wp2
    refine ⟨trivial, ?_⟩
    have rv : Rd (w1.alloc (.cells #[.int .i64 m.k, .string (bs m.n), .slice a1 nv c1] 24)) 1 (.slice a1 nv c1) nv (txs m.vs) := Rd.of_sl (Sl.alloc S1.out _)
    refine (CallsIn.inRound l (callsIn_wide.2 (CH.out _ _ rv))).mono ?_
    rintro e w3 ⟨rfl, b3⟩
    have z1 := B1.out.size
    have hbx := (b3.block w1.heap.size (by simp)).trans (heap_alloc_new w1 _)
    have b13 : Below w1.heap.size w1 w3 := ((Below.refl _ w1).alloc (Nat.le_refl _) _).trans (b3.mono (by simp))
    have bW3 : Below W.heap.size W w3 := B1.out.trans (b13.mono z1)
    have z3 := bW3.size
    have z13 : w1.heap.size + 1 ≤ w3.heap.size := by have := b3.size; simpa using this
    have r0 := Lib.cell_of_heap hbx 0; have r1 := Lib.cell_of_heap hbx 1; have r2 := Lib.cell_of_heap hbx 2
    simp at r0 r1 r2
    have p2 := (bW3.cell (p := ⟨w.heap.size + 2, 0, none⟩) (by show w.heap.size + 2 < _; omega)).trans h8
    have f2 := (bW3.frozen (p := ⟨w.heap.size + 2, 0, none⟩) (by show w.heap.size + 2 < _; omega)).trans h9
    have H3 := Lib.hid h3; have B13 := Lib.hid b13; have BW3 := Lib.hid bW3; have H1 := Lib.hid h1; have H10 := Lib.hid h10
    have n1 : ms.length + 1 ≤ maxLen := by unfold maxLen; omega
    have n2 : (ms.length + 1) * 48 ≤ 140737488355328 := by omega
    have HML := Lib.hid hml
    have hlt3 : ∀ k, (Value.slice va ms.length vc).ownBlock = some k → w.heap.size + 8 ≤ k ∧ k < W.heap.size := fun k e => h3.1.lt k e
    have HLT := Lib.hid hlt3
    have h3Y : Sl (w3.alloc (.cells #[.int .i64 m.k, .string (bs m.n), .slice a1 nv c1] 24)) (w.heap.size + 8) 3 (.slice va ms.length vc) ms.length (mcs ms) := Sl.alloc (h3.1.on bW3) _
    have hlit := (Sl.lit w3 W.heap.size 3 1 #[.int .i64 m.k, .string (bs m.n), .slice a1 nv c1] 24 z3 (by decide) rfl).cells
    have hbY : (w.heap.size + 8) ≤ (w3.alloc (.cells #[.int .i64 m.k, .string (bs m.n), .slice a1 nv c1] 24)).heap.size := by simp; omega
    have hone : ∀ u ∈ [Value.int .i64 m.k, .string (bs m.n), .slice a1 nv c1], u.oneCell' = true := by
      intro u hu
      simp only [List.mem_cons, List.not_mem_nil, or_false] at hu
      rcases hu with rfl | rfl | rfl <;> rfl
    have HSame := Lib.hid (fun (w4 : World) (hg : (w3.alloc (.cells #[.int .i64 m.k, .string (bs m.n), .slice a1 nv c1] 24)).grownBy w4 (Value.slice va ms.length vc).ownBlock) (k : Nat) (hk : k < w3.heap.size) (hn : (Value.slice va ms.length vc).ownBlock ≠ some k) =>
      show w4.heap[k]? = w3.heap[k]? from (hg.block k (by simp; omega) (fun e => hn e.symm)).trans (Below.heap_alloc _ _ _ hk))
    clear rv b3 hbx h3 b13 bW3 CH h1 h10 hml hlt3
    gi_wp2_with (gi_at_builtin; refine wpListIn_append_sl _ rfl _ _ 26 rfl (w.heap.size + 8) 24 i0 (.agg #[.int .i64 0, .string ⟨#[]⟩, .slice none 0 0]) 3 48 Tryz.underlying26 Hi.out Hz.out Hs.out Hb.out rfl (by decide) _ ms.length _ rfl h3Y ⟨w3.heap.size, 0, none⟩ 1 1 [.int .i64 m.k, .string (bs m.n), .slice a1 nv c1] rfl rfl hlit hone n1 n2 hbY ?_; intro v' w4 hx; have hnow := hx.now; obtain ⟨g2, off2, cap2, rfl, hgb, hgl, _⟩ := hnow.somewhere (by omega); have p4 := (World.cell?_of_block (a := ⟨w.heap.size + 2, 0, none⟩) (HSame.out w4 hx.grown (w.heap.size + 2) (by omega) (fun e => by have := (HLT.out _ e).1; omega))).trans p2; have f4 := (World.frozen?_of_block (a := ⟨w.heap.size + 2, 0, none⟩) (HSame.out w4 hx.grown (w.heap.size + 2) (by omega) (fun e => by have := (HLT.out _ e).1; omega))).trans f2)
    have z4 : w3.heap.size + 1 ≤ w4.heap.size := by have := hx.grown.size; simpa using this
    have hsame : ∀ k, k < w.heap.size + 8 → w4.heap[k]? = W.heap[k]? := fun k hk => (HSame.out w4 hx.grown k (by omega) (fun e => by have := (HLT.out k e).1; omega)).trans (BW3.out.block k (by omega))
    have hb4 : Below w.heap.size w w4 := ((H10.out.trans (BW3.out.mono (by omega))).alloc (by omega) _).grown hx.grown (by simp; omega) (fun k e => by have := (HLT.out k e).1; omega)
    have hown : ∀ k, k < w3.heap.size → (Value.slice va ms.length vc).ownBlock ≠ some k → (Value.slice (some ⟨g2, off2, none⟩) (ms.length + 1) cap2).ownBlock ≠ some k := by
      intro k hk hne
      rcases hx.alias with ⟨a, cap, e1, e2, _⟩ | hnew
      · cases e1; cases e2
        exact hne
      · intro e
        have := hnew k e
        simp at this; omega
    refine ⟨fun k k1 k2 => ?_, ms ++ [(m, .slice a1 nv c1)], .slice (some ⟨g2, off2, none⟩) (ms.length + 1) cap2, ?_, ⟨?_, fun p hpm => ?_⟩, ?_, ?_, ?_, ?_, ?_, ?_, ?_, ?_⟩
    · rw [Below.heap_setCell _ _ _ _ (by show k ≠ w.heap.size + 2; omega)]
      exact hsame k (by omega)
    · have e := HM.out; rw [List.map_append, List.map_append, H1.out, List.map_singleton, List.map_singleton, ← e]
    · rw [List.length_append, List.length_singleton, show mcs (ms ++ [(m, .slice a1 nv c1)]) = mcs ms ++ [.int .i64 m.k, .string (bs m.n), .slice a1 nv c1] by simp [mcs]]
      exact hnow.same (by simp [World.setCell]) (fun k hk => Below.heap_setCell _ _ _ _ (by show k ≠ w.heap.size + 2; have := (hnow.lt k hk).1; omega))
    · rcases List.mem_append.1 hpm with hp1 | hp1
      · obtain ⟨q1, q2⟩ := H3.out.2 p hp1
        refine ⟨q1.same (by simp [World.setCell]; omega) (fun k hk => ?_), fun k hk => ?_⟩
        · have hlt := q1.lt k hk
          rw [Below.heap_setCell _ _ _ _ (by show k ≠ w.heap.size + 2; omega), HSame.out w4 hx.grown k (by omega) (q2 k hk)]
          exact BW3.out.block k hlt.2
        · have hlt := q1.lt k hk
          exact hown k (by omega) (q2 k hk)
      · rw [List.mem_singleton] at hp1
        subst hp1
        have q1 := S1.out
        refine ⟨?_, fun k hk => ?_⟩
        · rw [← HNV.out]
          refine (q1.mono (show w.heap.size + 8 ≤ W.heap.size by omega)).same (by simp [World.setCell]; omega) (fun k hk => ?_)
          have hlt := q1.lt k hk
          rw [Below.heap_setCell _ _ _ _ (by show k ≠ w.heap.size + 2; omega), HSame.out w4 hx.grown k (by omega) (fun e => by have := (HLT.out k e).2; omega)]
          exact B13.out.block k hlt.2
        · have hlt := q1.lt k hk
          exact hown k (by omega) (fun e => by have := (HLT.out k e).2; omega)
    · rw [cell_setCell_other _ _ _ _ _ (.inl (by simp))]
      exact (World.cell?_of_block (a := ⟨w.heap.size, 0, none⟩) (hsame _ (by show w.heap.size < _; omega))).trans h4
    · rw [frozen_setCell]
      exact (World.frozen?_of_block (a := ⟨w.heap.size, 0, none⟩) (hsame _ (by show w.heap.size < _; omega))).trans h5
    · rw [cell_setCell_other _ _ _ _ _ (.inl (by simp))]
      exact (World.cell?_of_block (a := ⟨w.heap.size + 1, 0, none⟩) (hsame _ (by show w.heap.size + 1 < _; omega))).trans h6
    · rw [frozen_setCell]
      exact (World.frozen?_of_block (a := ⟨w.heap.size + 1, 0, none⟩) (hsame _ (by show w.heap.size + 1 < _; omega))).trans h7
    · exact cell_setCell_same _ _ _ _ (by rw [p4]; rfl)
    · rw [frozen_setCell]; exact f4
    · exact hb4.setCell (by simp) _
    · simp [World.setCell]; omega
end Go.Proofs.YtobdlfikomnmcaaGreatDoor

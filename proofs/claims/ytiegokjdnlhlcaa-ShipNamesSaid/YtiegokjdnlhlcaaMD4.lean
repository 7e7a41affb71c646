/- Layer 4's disks: a file appended to. -/
import Derived.Test.YtiegokjdnlhlcaaMD2
namespace Go.Proofs.Ytiegokjdnlhlcaa
open Go.Conc Go.RowKit

/-- All that a disk owns. -/
def Mine (d f c m : Nat) (fs : List Fl) (k : Nat) : Prop := k = d ∨ k = f ∨ k = c ∨ k = m ∨ ∃ x ∈ fs, x.v.ownBlock = some k
/-- The disk holds other files now; what it didn't own is as it was. -/
def Now (base d f c m : Nat) (room : Int) (fs fs' : List Fl) (A : List Ft) (w w' : World) : Prop :=
  (∃ clock, DiskAt base d f c m room fs' A clock w') ∧ Turn (Mine d f c m fs) w w' ∧ ∀ k, Mine d f c m fs' k → Mine d f c m fs k ∨ w.heap.size ≤ k

theorem DiskAt.below {base d f c m : Nat} {room : Int} {fs : List Fl} {A : List Ft} {clock : Nat} {w w' : World} (h : DiskAt base d f c m room fs A clock w) (b : Below w.heap.size w w') : DiskAt base d f c m room fs A clock w' := by
  have hd : d < w.heap.size := Nat.lt_of_lt_of_le h.dlt h.hb
  have t : Turn (fun _ => False) w w' := Turn.of_below b
  exact ⟨Nat.le_trans h.hb b.size, h.dlt, h.flt, h.clt, h.mlt, h.df, h.dc, h.dm, h.fc, h.fm, h.cm, (b.cell (p := ⟨d, 0, none⟩) hd).trans h.c0, (b.cell (p := ⟨d, 1, none⟩) hd).trans h.c1, (b.cell (p := ⟨d, 2, none⟩) hd).trans h.c2, (b.cell (p := ⟨d, 3, none⟩) hd).trans h.c3, (b.frozen (p := ⟨d, 2, none⟩) hd).trans h.f2,
    h.fuse.turn t (fun h => h) (fun h => h), h.map.turn t (fun h => h), h.files.turn t (fun _ h => h.elim), h.room0, h.room1, h.small, h.stamps⟩
/-- The fuse alone was turned. -/
theorem DiskAt.tried {base d f c m : Nat} {room : Int} {fs : List Fl} {A A' : List Ft} {clock : Nat} {w w' : World} (h : DiskAt base d f c m room fs A clock w) (t : Turn (Own f c) w w') (hA : Holds f c A' w') : DiskAt base d f c m room fs A' clock w' := by
  have hd : d < w.heap.size := Nat.lt_of_lt_of_le h.dlt h.hb
  have hn : ¬ Own f c d := by have := h.df; have := h.dc; rintro (e | e) <;> omega
  have hm : ¬ Own f c m := by have := h.fm; have := h.cm; rintro (e | e) <;> omega
  have hflt := h.flt
  have hclt := h.clt
  exact ⟨Nat.le_trans h.hb t.size, h.dlt, h.flt, h.clt, h.mlt, h.df, h.dc, h.dm, h.fc, h.fm, h.cm, (t.cell (p := ⟨d, 0, none⟩) hd hn).trans h.c0, (t.cell (p := ⟨d, 1, none⟩) hd hn).trans h.c1, (t.cell (p := ⟨d, 2, none⟩) hd hn).trans h.c2, (t.cell (p := ⟨d, 3, none⟩) hd hn).trans h.c3, (t.frozen (p := ⟨d, 2, none⟩) hd hn).trans h.f2,
    hA, h.map.turn t hm, h.files.turn t (fun k hk => by rcases hk with e | e <;> omega), h.room0, h.room1, h.small, h.stamps⟩

/-- The bytes of a name's file. -/
def dataF (k : ByteArray) (fs : List Fl) : List UInt8 := ((lookF k fs).map (·.data)).getD []
def sureF (k : ByteArray) (fs : List Fl) : Nat := ((lookF k fs).map (·.sure)).getD 0
def valF (k : ByteArray) (fs : List Fl) : Value := ((lookF k fs).map (·.v)).getD (.slice none 0 0)
theorem val_en (k : ByteArray) (fs : List Fl) : (((lookF k fs).map Fl.en).map (·.val)).getD (fval (.slice none 0 0) 0) = fval (valF k fs) (sureF k fs) := by
  unfold valF sureF
  cases lookF k fs <;> rfl
theorem files_val {base : Nat} {fs : List Fl} {w : World} (h : Files base fs w) (k : ByteArray) : Sl w base 1 (valF k fs) (dataF k fs).length (cb (dataF k fs)) ∧ sureF k fs ≤ (dataF k fs).length ∧ (dataF k fs).length = lenF k fs := by
  unfold valF dataF sureF lenF
  cases hl : lookF k fs with
  | none => exact ⟨Sl.nil _ _ _, Nat.le_refl _, rfl⟩
  | some x =>
    have hx := (look_mem k fs x hl).1
    exact ⟨h.sl x hx, h.sure x hx, rfl⟩
theorem pair_of : ∀ (fs : List Fl), fs.Pairwise Apart → ∀ x ∈ fs, ∀ y ∈ fs, x ≠ y → Apart x y
  | [], _, x, hx, _, _, _ => by cases hx
  | e :: es, h, x, hx, y, hy, hne => by
    rw [List.pairwise_cons] at h
    rcases List.mem_cons.1 hx with hxe | hx
    · rcases List.mem_cons.1 hy with hye | hy
      · exact absurd (hxe.trans hye.symm) hne
      · rw [hxe]; exact h.1 y hy
    · rcases List.mem_cons.1 hy with hye | hy
      · rw [hye]; exact apart_symm (h.1 x hx)
      · exact pair_of es h.2 x hx y hy hne
theorem files_apart {base : Nat} {fs : List Fl} {w : World} (h : Files base fs w) (k : ByteArray) : ∀ x ∈ fs, x.name ≠ k → ∀ i, (valF k fs).ownBlock = some i → x.v.ownBlock ≠ some i := by
  intro x hx hne i hi
  unfold valF at hi
  cases hl : lookF k fs with
  | none => rw [hl] at hi; simp [Value.ownBlock] at hi
  | some y =>
    rw [hl] at hi
    have hy := look_mem k fs y hl
    have hxy : x ≠ y := fun e => hne (by rw [e]; exact hy.2)
    exact pair_of fs h.apart y hy.1 x hx (Ne.symm hxy) i hi

theorem look_none (k : ByteArray) : ∀ (fs : List Fl), lookF k fs = none → ∀ x ∈ fs, x.name ≠ k
  | [], _, x, hx => by cases hx
  | e :: es, h, x, hx => by
    unfold lookF at h
    by_cases hk : k = e.name
    · rw [if_pos hk] at h; cases h
    · rw [if_neg hk] at h
      rcases List.mem_cons.1 hx with rfl | hx
      · exact fun e2 => hk e2.symm
      · exact look_none k es h x hx
theorem name_inj : ∀ (fs : List Fl), (fs.map (·.name)).Nodup → ∀ x ∈ fs, ∀ y ∈ fs, x.name = y.name → x = y
  | [], _, x, hx, _, _, _ => by cases hx
  | e :: es, h, x, hx, y, hy, he => by
    rw [List.map_cons, List.nodup_cons] at h
    rcases List.mem_cons.1 hx with hxe | hx
    · rcases List.mem_cons.1 hy with hye | hy
      · rw [hxe, hye]
      · exact absurd (show e.name ∈ es.map (·.name) from List.mem_map.2 ⟨y, hy, by rw [← he, hxe]⟩) h.1
    · rcases List.mem_cons.1 hy with hye | hy
      · exact absurd (show e.name ∈ es.map (·.name) from List.mem_map.2 ⟨x, hx, by rw [he, hye]⟩) h.1
      · exact name_inj es h.2 x hx y hy he
theorem ext_box {base size n n2 X : Nat} {w w2 : World} {v v2 : Value} {xs xs2 : List Value} {o : Obj} (hx : Ext base size w v n xs w2 v2 n2 xs2) (hX : w.heap[X]? = some o) (hv : ∀ k, v.ownBlock = some k → k ≠ X) : w2.heap[X]? = some o :=
  (hx.grown.block X (Array.getElem?_eq_some_iff.1 hX).1 (fun e => hv X e.symm rfl)).trans hX
theorem ext_cell {base size n n2 : Nat} {w w2 : World} {v v2 : Value} {xs xs2 : List Value} (hx : Ext base size w v n xs w2 v2 n2 xs2) (p : Addr) (hp : p.block < w.heap.size) (hv : ∀ k, v.ownBlock = some k → k ≠ p.block) {u : Value} (h : w.cell? p = some u) : w2.cell? p = some u :=
  (World.cell?_of_block (hx.grown.block p.block hp (fun e => hv p.block e.symm rfl))).trans h
theorem val_mine (d f c m : Nat) (fs : List Fl) (k : ByteArray) (i : Nat) (h : (valF k fs).ownBlock = some i) : Mine d f c m fs i := by
  unfold valF at h
  cases hl : lookF k fs with
  | none => rw [hl] at h; simp [Value.ownBlock] at h
  | some x => rw [hl] at h; exact .inr (.inr (.inr (.inr ⟨x, (look_mem k fs x hl).1, h⟩)))
theorem box2 {w : World} {X : Nat} {x y : Value} {t : TypeId} (h : w.heap[X]? = some (.cells #[x, y] t)) : w.cell? ⟨X, 0, none⟩ = some x ∧ w.cell? ⟨X, 1, none⟩ = some y ∧ w.frozen? ⟨X, 0, none⟩ = false ∧ w.frozen? ⟨X, 1, none⟩ = false := by
  refine ⟨?_, ?_, ?_, ?_⟩
  · rw [cell_of_row _ _ 0 _ _ _ h]; rfl
  · rw [cell_of_row _ _ 1 _ _ _ h]; rfl
  · simp only [World.frozen?, h]; rfl
  · simp only [World.frozen?, h]; rfl

theorem DiskAt.with {base d f c m : Nat} {room : Int} {fs : List Fl} {A : List Ft} {clock : Nat} {S : Nat → Prop} {w w' : World} (h : DiskAt base d f c m room fs A clock w) (t : Turn S w w') (sd : ¬ S d) (sf : ¬ S f) (sc : ¬ S c) (sm : ¬ S m) (hF : Files base fs w') : DiskAt base d f c m room fs A clock w' := by
  have hd : d < w.heap.size := Nat.lt_of_lt_of_le h.dlt h.hb
  exact ⟨Nat.le_trans h.hb t.size, h.dlt, h.flt, h.clt, h.mlt, h.df, h.dc, h.dm, h.fc, h.fm, h.cm, (t.cell (p := ⟨d, 0, none⟩) hd sd).trans h.c0, (t.cell (p := ⟨d, 1, none⟩) hd sd).trans h.c1, (t.cell (p := ⟨d, 2, none⟩) hd sd).trans h.c2, (t.cell (p := ⟨d, 3, none⟩) hd sd).trans h.c3, (t.frozen (p := ⟨d, 2, none⟩) hd sd).trans h.f2,
    h.fuse.turn t sf sc, h.map.turn t sm, hF, h.room0, h.room1, h.small, h.stamps⟩

/-- One file's memory was appended to, and a box stored into: all files read as they did. -/
theorem files_ext {base : Nat} {fs : List Fl} {w W1 w2 : World} {name : ByteArray} {n n2 : Nat} {v2 : Value} {xs2 : List Value} (h : Files base fs w) (b1 : Below w.heap.size w W1) (hn : n = (dataF name fs).length) (hx : Ext base 1 W1 (valF name fs) n (cb (dataF name fs)) w2 v2 n2 xs2) (u : Value) :
    Files base fs (w2.setCell ⟨w.heap.size, 0, none⟩ u) := by
  have hs1 := b1.size
  have hs2 := hx.grown.size
  refine ⟨fun x hxm => ?_, h.sure, h.names, h.apart⟩
  have hsl := h.sl x hxm
  have hlt := hsl.lt
  have h2 : Sl w2 base 1 x.v x.data.length (cb x.data) := by
    by_cases hk : x.name = name
    · have hlook : lookF name fs = some x := by
        cases hl : lookF name fs with
        | none => exact absurd (look_none name fs hl x hxm) (fun h => h hk)
        | some y =>
          have hy := look_mem name fs y hl
          rw [name_inj fs h.names x hxm y hy.1 (hk.trans hy.2.symm)]
      have hv : valF name fs = x.v := by unfold valF; rw [hlook]; rfl
      have hd : dataF name fs = x.data := by unfold dataF; rw [hlook]; rfl
      have := hx.old
      rw [hn, hv, hd] at this
      exact this
    · refine (hsl.on b1).same hs2 fun k hk2 => hx.grown.block k (by have := (hlt k hk2).2; omega) (fun e => ?_)
      exact files_apart h name x hxm hk k e.symm hk2
  exact h2.same (by simp [World.setCell]) fun k hk2 => Below.heap_setCell _ _ _ _ (by have := (hlt k hk2).2; simp only; omega)

set_option maxHeartbeats 1000000 in
set_option maxRecDepth 100000 in
theorem append1_any (base d f c m : Nat) (room : Int) (fs : List Fl) (A : List Ft) (clock : Nat) (name s : ByteArray) (bd bn bs' : Nat) (w : World) (h : DiskAt base d f c m room fs A clock w) (hn : usedF fs + s.size ≤ 1000000)
    (p0 : w.cell? ⟨bd, 0, none⟩ = some (.pointer (some ⟨d, 0, none⟩))) (p1 : w.cell? ⟨bn, 0, none⟩ = some (.string name)) (p2 : w.cell? ⟨bs', 0, none⟩ = some (.string s))
    (q : ∀ k, k = bd ∨ k = bn ∨ k = bs' → k < w.heap.size ∧ ¬ Mine d f c m fs k) :
    Calls Try.prog 53 #[.pointer (some ⟨bd, 0, none⟩), .pointer (some ⟨bn, 0, none⟩), .pointer (some ⟨bs', 0, none⟩)] w fun e w' => ∃ er, e = .returned (.int .i64 er) ∧ er = 0 ∧ ∃ v, Now base d f c m room fs (setF name v (dataF name fs ++ s.data.toList) (sureF name fs) clock fs) A w w' := by
  have c3 := h.c3
  have hdw : d < w.heap.size := Nat.lt_of_lt_of_le h.dlt h.hb
  have hmw : m < w.heap.size := Nat.lt_of_lt_of_le h.mlt h.hb
  have hbdw := (q bd (.inl rfl)).1
  have hbnw := (q bn (.inr (.inl rfl))).1
  have hbsw := (q bs' (.inr (.inr rfl))).1
  have hl2 := run_look (P := Try.prog) (w := (w.alloc (.cells #[.slice none 0 0, .int .i64 0] 53)).drew) Try.underlying30 Try.underlying9 (fval (.slice none 0 0) 0) zero_file (show MapIs m (fs.map Fl.en) clock _ from (Below.heap_alloc w _ _ hmw).trans h.map) name false
  have a3 : ∀ o, (w.alloc o).cell? ⟨d, 3, none⟩ = some (.map (some m)) := fun o => (World.cell?_alloc_past _ _ _ hdw).trans c3
  have a0 : ∀ o, (w.alloc o).cell? ⟨bd, 0, none⟩ = some (.pointer (some ⟨d, 0, none⟩)) := fun o => (World.cell?_alloc_past _ _ _ hbdw).trans p0
  have a1 : ∀ o, (w.alloc o).cell? ⟨bn, 0, none⟩ = some (.string name) := fun o => (World.cell?_alloc_past _ _ _ hbnw).trans p1
  have hl0 := run_look (P := Try.prog) (w := w) Try.underlying30 Try.underlying9 (fval (.slice none 0 0) 0) zero_file h.map name false
  have hl1 := run_look (P := Try.prog) (w := w.drew) Try.underlying30 Try.underlying9 (fval (.slice none 0 0) 0) zero_file h.map name false
  rw [look_en] at hl0 hl1 hl2
  simp only [Bool.false_eq_true, if_false] at hl0 hl1 hl2
  rw [val_en] at hl0 hl1 hl2
  obtain ⟨hsl, hsure, hlen⟩ := files_val h.files name
  obtain ⟨a, cap, hv⟩ := hsl.slice
  obtain ⟨n, hnn⟩ : ∃ n, n = (dataF name fs).length := ⟨_, rfl⟩
  rw [hv] at hl0 hl1 hl2 hsl
  rw [← hnn] at hl0 hl1 hl2 hsl hv
  unfold fval at hl0 hl1 hl2
  have HN := Lib.hid hnn
  have HV := Lib.hid hv
  clear hv hnn
  obtain ⟨i0, hi, hz0, hz1, hz2⟩ := info_parts bi_u8
  have Hz := Lib.hid hz0; have Hs := Lib.hid hz1; have Hb := Lib.hid hz2; have Hi := Lib.hid hi
  clear hz0 hz1 hz2 hi
  have hbw := h.hb
  have hu := used_del name fs
  have hnU : n ≤ usedF fs := by have := HN.out; omega
  have HU := Lib.hid hu
  clear hu
  go_enter Try.func53, Try.ntmps53
  go_wp2
  go_region
  all_goals
    obtain ⟨W1, hW1⟩ : ∃ W1, W1 = (w.alloc (.cells #[.slice a n cap, .int .i64 (sureF name fs)] 53)).drew := ⟨_, rfl⟩
    rw [← hW1]
    have z1 : W1.heap.size = w.heap.size + 1 := by rw [hW1]; simp
    have hb1 : Below w.heap.size w W1 := by rw [hW1]; exact ((Below.refl _ w).alloc (Nat.le_refl _) _).drew
    have hblk : W1.heap[w.heap.size]? = some (.cells #[.slice a n cap, .int .i64 (sureF name fs)] 53) := by rw [hW1]; exact heap_alloc_new w _
    have hs1 := hsl.on hb1
    have hvlt : ∀ k, (Value.slice a n cap).ownBlock = some k → base ≤ k ∧ k < w.heap.size := fun k hk => hsl.lt k hk
    have e0 : W1.cell? ⟨w.heap.size, 0, none⟩ = some (.slice a n cap) := by rw [cell_of_row _ _ 0 _ _ _ hblk]; rfl
    have e2 : W1.cell? ⟨bs', 0, none⟩ = some (.string s) := (hb1.cell (p := ⟨bs', 0, none⟩) hbsw).trans p2
    have hvX : ∀ k, (Value.slice a n cap).ownBlock = some k → k ≠ w.heap.size := fun k hk => by have := (hvlt k hk).2; omega
    have hmine : ∀ k, (Value.slice a n cap).ownBlock = some k → Mine d f c m fs k := fun k hk => val_mine d f c m fs name k (by rw [HV.out]; exact (ownBlock_slice _ _ _ _ _).trans hk)
    have hvbd : ∀ k, (Value.slice a n cap).ownBlock = some k → k ≠ bd := fun k hk e => (q bd (.inl rfl)).2 (e ▸ hmine k hk)
    have hvbn : ∀ k, (Value.slice a n cap).ownBlock = some k → k ≠ bn := fun k hk e => (q bn (.inr (.inl rfl))).2 (e ▸ hmine k hk)
    have pb0 : W1.cell? ⟨bd, 0, none⟩ = some (.pointer (some ⟨d, 0, none⟩)) := (hb1.cell (p := ⟨bd, 0, none⟩) hbdw).trans p0
    have pb1 : W1.cell? ⟨bn, 0, none⟩ = some (.string name) := (hb1.cell (p := ⟨bn, 0, none⟩) hbnw).trans p1
    have hbd1 : bd < W1.heap.size := by omega
    have hbn1 : bn < W1.heap.size := by omega
    have HMi := Lib.hid hmine
    have HW1 := Lib.hid hW1
    clear hW1 hmine hl0 hl1 hl2 a0 a1 a3
    go_wp2_with (at_builtin; refine wpList_append_sl_string _ rfl _ _ 51 9 rfl base 5 i0 Try.underlying51 Try.underlying9 Hi.out Hz.out Hs.out Hb.out _ _ _ rfl hs1 s rfl (by unfold maxLen; omega) (by omega) (by omega) ?_; intro v2 w2 hx; have hX := ext_box hx hblk hvX; have hB := box2 hX; obtain ⟨x0, x1, xf, xf1⟩ := hB; have hnow := hx.now; have y0 := ext_cell hx ⟨bd, 0, none⟩ hbd1 hvbd pb0; have y1 := ext_cell hx ⟨bn, 0, none⟩ hbn1 hvbn pb1; obtain ⟨a2, cap2, rfl⟩ := hnow.slice)
    obtain ⟨W3, hW3⟩ : ∃ W3, W3 = w2.setCell ⟨w.heap.size, 0, none⟩ (.slice a2 (n + s.size) cap2) := ⟨_, rfl⟩
    have hF3 : Files base fs W3 := by
      rw [hW3]
      exact files_ext (name := name) (n := n) h.files hb1 HN.out (by rw [HV.out]; exact hx) _
    have t3 : Turn (fun k => (valF name fs).ownBlock = some k) w W3 := by
      rw [hW3]
      refine Turn.setNew ?_ _ _ (Nat.le_refl _)
      refine (Turn.of_below hb1).trans ⟨hx.grown.os, hx.grown.tape, hx.grown.output, hx.grown.size, fun k hk hne => hx.grown.block k hk (fun e => hne ?_)⟩
      rw [HV.out]
      exact e.symm
    have hM : ∀ k, (valF name fs).ownBlock = some k → base ≤ k := fun k hk => ((files_val h.files name).1.lt k hk).1
    have hdB := h.dlt
    have hfB := h.flt
    have hcB := h.clt
    have hmB := h.mlt
    have D3 := h.with t3 (fun e => by have := hM _ e; omega) (fun e => by have := hM _ e; omega) (fun e => by have := hM _ e; omega) (fun e => by have := hM _ e; omega) hF3
    have hdata : (dataF name fs ++ s.data.toList).length = n + s.size := by rw [List.length_append, ← HN.out]; rfl
    have hs3 : Sl W3 base 1 (.slice a2 (n + s.size) cap2) (n + s.size) (cb (dataF name fs ++ s.data.toList)) := by
      rw [hW3, cb_append]
      refine Sl.same hnow (by simp [World.setCell]) fun k hk => Below.heap_setCell _ _ _ _ ?_
      rcases hx.alias with ⟨a', cap', he, he', _⟩ | f
      · have hk' : (Value.slice a n cap).ownBlock = some k := by
          cases he
          rw [he'] at hk
          exact (ownBlock_slice _ _ _ _ _).trans hk
        exact hvX k hk'
      · have := f k hk
        simp only
        omega
    have hap3 : ∀ x ∈ fs, x.name ≠ name → ∀ i, (Value.slice a2 (n + s.size) cap2).ownBlock = some i → x.v.ownBlock ≠ some i := by
      intro x hxm hne i hi hb'
      rcases hx.alias with ⟨a', cap', he, he', _⟩ | f
      · have hi' : (Value.slice a n cap).ownBlock = some i := by
          cases he
          rw [he'] at hi
          exact (ownBlock_slice _ _ _ _ _).trans hi
        exact files_apart h.files name x hxm hne i (by rw [HV.out]; exact hi') hb'
      · have h1 := f i hi
        have h2 := ((h.files.sl x hxm).lt i hb').2
        omega
    rw [← hW3]
    refine (dput_any base d f c m room fs A clock name a2 (n + s.size) cap2 (sureF name fs) (dataF name fs ++ s.data.toList) W3 D3 (by have := HN.out; omega) hdata hs3 (by rw [HN.out]; omega) hap3).mono ?_
    rintro e w4 ⟨rfl, ⟨clock4, D4⟩, t4⟩
    go_wp2
    go_ret
    refine ⟨0, rfl, rfl, _, ⟨clock4, D4⟩, ?_, ?_⟩
    · exact (t3.mono (fun k hk => val_mine d f c m fs name k hk)).trans (t4.mono (fun k hk => by
        rcases hk with e | e
        · exact .inl e
        · exact .inr (.inr (.inr (.inl e)))))
    · intro k hk
      rcases hk with e | e | e | e | ⟨x, hxm, hxk⟩
      · exact .inl (.inl e)
      · exact .inl (.inr (.inl e))
      · exact .inl (.inr (.inr (.inl e)))
      · exact .inl (.inr (.inr (.inr (.inl e))))
      · rcases set_mem name _ _ _ _ fs h.files.names x hxm with ⟨h1, _⟩ | ⟨h1, _⟩
        · exact .inl (.inr (.inr (.inr (.inr ⟨x, h1, hxk⟩))))
        · rw [h1] at hxk
          rcases hx.alias with ⟨a', cap', he, he', _⟩ | f'
          · have hi' : (Value.slice a n cap).ownBlock = some k := by
              cases he
              rw [he'] at hxk
              exact (ownBlock_slice _ _ _ _ _).trans hxk
            exact .inl (HMi.out k hi')
          · have := f' k hxk
            exact .inr (by omega)
end Go.Proofs.Ytiegokjdnlhlcaa

/- Layer 18: a disk with the file of the last number, and perhaps an unfinished one; what the disk's calls leave of it. -/
import Derived.Test.YtiegokjdnlhlcaaMD17
import Derived.Test.YtiegokjdnlhlcaaMD9
import Derived.Test.YtiegokjdnlhlcaaME6
namespace Go.Proofs.Ytiegokjdnlhlcaa
open Go.Conc Go.RowKit
set_option linter.unusedVariables false

def seqK : ByteArray := ⟨#[115, 101, 113]⟩
def tmpK : ByteArray := ⟨#[116, 109, 112, 45, 119, 97, 108]⟩
theorem seq_ne : seqK ≠ tmpK := fun h => by have := congrArg ByteArray.size h; revert this; decide
theorem tmp_ne : tmpK ≠ seqK := fun h => seq_ne h.symm

theorem look_set_same (k : ByteArray) (v : Value) (data : List UInt8) (s b : Nat) : ∀ fs : List Fl, ∃ x, lookF k (setF k v data s b fs) = some x ∧ x.v = v ∧ x.data = data ∧ x.sure = s ∧ x.name = k
  | [] => ⟨⟨k, v, data, s, b⟩, by simp [setF, lookF], rfl, rfl, rfl, rfl⟩
  | e :: es => by
    unfold setF
    by_cases h : k = e.name
    · rw [if_pos h]
      exact ⟨{ e with v := v, data := data, sure := s }, by simp [lookF, h], rfl, rfl, rfl, h.symm⟩
    · rw [if_neg h]
      obtain ⟨x, hx, r⟩ := look_set_same k v data s b es
      exact ⟨x, by simp [lookF, h, hx], r⟩
theorem look_none_of (k : ByteArray) : ∀ fs : List Fl, (∀ x ∈ fs, x.name ≠ k) → lookF k fs = none
  | [], _ => rfl
  | e :: es, h => by
    unfold lookF
    rw [if_neg fun e' => h e (by simp) e'.symm]
    exact look_none_of k es fun x hx => h x (by simp [hx])
theorem none_of_look (k : ByteArray) : ∀ fs : List Fl, lookF k fs = none → ∀ x ∈ fs, x.name ≠ k
  | [], _, x, hx => by cases hx
  | e :: es, h, x, hx => by
    unfold lookF at h
    by_cases hk : k = e.name
    · rw [if_pos hk] at h; cases h
    · rw [if_neg hk] at h
      rcases List.mem_cons.1 hx with rfl | hx
      · exact fun e' => hk e'.symm
      · exact none_of_look k es h x hx

/-- The files: of the last number (all its bytes are there for sure), and the unfinished one. -/
structure Fq (fs : List Fl) (q : Option (List UInt8)) : Prop where
  names : ∀ x ∈ fs, x.name = seqK ∨ x.name = tmpK
  seq : match q with | none => lookF seqK fs = none | some D => ∃ x, lookF seqK fs = some x ∧ x.data = D ∧ x.data.length - x.sure = 0
  small : ∀ x ∈ fs, x.data.length ≤ 30
theorem Fq.nil : Fq [] none := ⟨(fun x hx => by cases hx), rfl, (fun x hx => by cases hx)⟩
theorem sum_small : ∀ (fs : List Fl), (∀ x ∈ fs, x.data.length ≤ 30) → usedF fs ≤ 30 * fs.length
  | [], _ => Nat.le_refl _
  | e :: es, h => by
    have h1 := sum_small es fun x hx => h x (by simp [hx])
    have h2 := h e (by simp)
    unfold usedF at h1 ⊢
    simp only [List.map_cons, List.sum_cons, List.length_cons]
    omega
theorem Fq.few {fs : List Fl} {q : Option (List UInt8)} (h : Fq fs q) (hn : (fs.map (·.name)).Nodup) : fs.length ≤ 2 := by
  rcases fs with _ | ⟨a, _ | ⟨b, _ | ⟨c, fs⟩⟩⟩
  · simp
  · simp
  · simp
  · exfalso
    simp only [List.map_cons, List.nodup_cons, List.mem_cons, not_or] at hn
    have ha := h.names a (by simp); have hb := h.names b (by simp); have hc := h.names c (by simp)
    rcases ha with ha | ha <;> rcases hb with hb | hb <;> rcases hc with hc | hc <;> simp_all
theorem Fq.used {fs : List Fl} {q : Option (List UInt8)} (h : Fq fs q) (hn : (fs.map (·.name)).Nodup) : usedF fs ≤ 60 := by
  have h1 := sum_small fs h.small
  have h2 := h.few hn
  omega
theorem Fq.del {fs : List Fl} {q : Option (List UInt8)} (h : Fq fs q) : Fq (delF tmpK fs) q := by
  have hs := (del_sub tmpK fs).subset
  refine ⟨fun x hx => h.names x (hs hx), ?_, fun x hx => h.small x (hs hx)⟩
  rw [look_del_other _ _ seq_ne]; exact h.seq
theorem Fq.set {fs : List Fl} {q : Option (List UInt8)} (h : Fq fs q) (hn : (fs.map (·.name)).Nodup) (v : Value) (data : List UInt8) (s b : Nat) (hd : data.length ≤ 30) : Fq (setF tmpK v data s b fs) q := by
  refine ⟨fun x hx => ?_, ?_, fun x hx => ?_⟩
  · rcases set_mem tmpK v data s b fs hn x hx with ⟨h1, _⟩ | ⟨_, _, _, h1⟩
    · exact h.names x h1
    · exact .inr h1
  · rw [look_set_other _ _ _ _ _ _ seq_ne]; exact h.seq
  · rcases set_mem tmpK v data s b fs hn x hx with ⟨h1, _⟩ | ⟨_, h2, _, _⟩
    · exact h.small x h1
    · rw [h2]; exact hd
theorem Fq.move {fs : List Fl} {q : Option (List UInt8)} (h : Fq fs q) (hn : (fs.map (·.name)).Nodup) (v : Value) (data : List UInt8) (s b : Nat) (hd : data.length ≤ 30) (hs : data.length - s = 0) : Fq (setF seqK v data s b (delF tmpK fs)) (some data) := by
  have hn2 : ((delF tmpK fs).map (·.name)).Nodup := hn.sublist ((del_sub tmpK fs).map _)
  refine ⟨fun x hx => ?_, ?_, fun x hx => ?_⟩
  · rcases set_mem seqK v data s b _ hn2 x hx with ⟨h1, _⟩ | ⟨_, _, _, h1⟩
    · exact h.names x ((del_sub tmpK fs).subset h1)
    · exact .inl h1
  · obtain ⟨x, hx, _, h2, h3, _⟩ := look_set_same seqK v data s b (delF tmpK fs)
    exact ⟨x, hx, h2, by rw [h2, h3]; exact hs⟩
  · rcases set_mem seqK v data s b _ hn2 x hx with ⟨h1, _⟩ | ⟨_, h2, _, _⟩
    · exact h.small x ((del_sub tmpK fs).subset h1)
    · rw [h2]; exact hd
theorem crash_small : ∀ (ns : List (List UInt8)) (cs : List Int) (fs : List Fl), (fs.map (·.name)).Nodup → (∀ x ∈ fs, x.data.length ≤ 30) → ∀ x ∈ crashL ns cs fs, x.data.length ≤ 30
  | [], _, fs, _, h => h
  | n :: ns, cs, fs, hn, h => by
    cases hl : lookF ⟨n.toArray⟩ fs with
    | none =>
      have : crashL (n :: ns) cs fs = crashL ns cs fs := by
        conv => lhs; unfold crashL
        rw [hl]
      rw [this]
      exact crash_small ns cs fs hn h
    | some y =>
      by_cases hz : y.data.length - y.sure = 0
      · rw [crashL_same n ns cs fs y hl hz]
        exact crash_small ns cs fs hn h
      · rw [crashL_cut n ns cs fs y hl hz]
        have hy := (look_mem _ fs y hl).1
        refine crash_small ns _ _ (set_nodup _ _ _ _ _ fs hn) fun x hx => ?_
        rcases set_mem _ _ _ _ _ fs hn x hx with ⟨h1, _⟩ | ⟨_, h2, _, _⟩
        · exact h x h1
        · rw [h2, List.length_take]
          have := h y hy
          omega
theorem Fq.crash {fs : List Fl} {q : Option (List UInt8)} (h : Fq fs q) (hn : (fs.map (·.name)).Nodup) (ns : List (List UInt8)) (cs : List Int) : Fq (crashL ns cs fs) q := by
  have hnm := crash_len ns cs fs
  refine ⟨fun x hx => ?_, ?_, crash_small ns cs fs hn h.small⟩
  · have : x.name ∈ fs.map (·.name) := by rw [← hnm]; exact List.mem_map_of_mem hx
    obtain ⟨y, hy, e⟩ := List.mem_map.1 this
    rw [← e]; exact h.names y hy
  · have hs := h.seq
    cases q with
    | none =>
      refine look_none_of _ _ fun x hx e => ?_
      have : x.name ∈ fs.map (·.name) := by rw [← hnm]; exact List.mem_map_of_mem hx
      obtain ⟨y, hy, e2⟩ := List.mem_map.1 this
      exact none_of_look _ _ hs y hy (e2.trans e)
    | some D =>
      obtain ⟨x, hx, h1, h2⟩ := hs
      exact ⟨x, crash_keeps seqK x h2 ns cs fs hx, h1, h2⟩

theorem try_none {nf : Bool} {A : List Ft} (h : nf = true → A = []) : (nf = true → (tryL A).2 = []) ∧ ((tryL A).1.1 = false → nf = false) := by
  refine ⟨fun hn => by rw [h hn]; rfl, fun ho => ?_⟩
  cases nf with
  | false => rfl
  | true => rw [h rfl] at ho; cases ho
theorem try_done (A : List Ft) : (tryL A).1.1 = true → (tryL A).1.2 = true := by
  cases A with
  | nil => intro _; rfl
  | cons x A =>
    by_cases h0 : x.1 > 0
    · simp [tryL, h0]
    · simp [tryL, h0]

/-- Memory from block B on may be turned, but some blocks. -/
structure Bm (B : Nat) (X : Nat → Prop) (w w' : World) : Prop where
  b : Below B w w'
  x : ∀ k, X k → w'.heap[k]? = w.heap[k]?
theorem Bm.refl (B : Nat) (X : Nat → Prop) (w : World) : Bm B X w w := ⟨Below.refl _ _, fun _ _ => rfl⟩
theorem Bm.trans {B : Nat} {X : Nat → Prop} {a b c : World} (h : Bm B X a b) (k : Bm B X b c) : Bm B X a c := ⟨h.b.trans k.b, fun j hj => (k.x j hj).trans (h.x j hj)⟩
theorem now_x {B base d f c m : Nat} {X : Nat → Prop} {fs fs' : List Fl} {A A' : List Ft} {clock : Nat} {w w' : World} (h : DiskAt base d f c m 10000 fs A clock w) (hB : Home B base d f c m) (n : Now base d f c m 10000 fs fs' A' w w') (hx : ∀ k, X k → k < w.heap.size ∧ ¬ Mine d f c m fs k) :
    Bm B X w w' ∧ ∀ k, X k → k < w'.heap.size ∧ ¬ Mine d f c m fs' k := by
  refine ⟨⟨n.below h hB, fun k hk => n.2.1.block k (hx k hk).1 (hx k hk).2⟩, fun k hk => ⟨Nat.lt_of_lt_of_le (hx k hk).1 n.2.1.size, fun hm => ?_⟩⟩
  rcases n.2.2 k hm with e | e
  · exact (hx k hk).2 e
  · have := (hx k hk).1; omega

/-- A disk of ten thousand bytes with these files. -/
def Sm (base d f c m : Nat) (X : Nat → Prop) (nf : Bool) (q : Option (List UInt8)) (w : World) : Prop := ∃ fs A clock, DiskAt base d f c m 10000 fs A clock w ∧ ((nf = true → A = []) ∧ ∀ k, X k → k < w.heap.size ∧ ¬ Mine d f c m fs k) ∧ Fq fs q
theorem Sm.below {base d f c m : Nat} {X : Nat → Prop} {nf : Bool} {q : Option (List UInt8)} {w w' : World} (h : Sm base d f c m X nf q w) (b : Below w.heap.size w w') : Sm base d f c m X nf q w' := by
  obtain ⟨fs, A, clock, h, hA, r⟩ := h
  exact ⟨fs, A, clock, h.below b, ⟨hA.1, fun k hk => ⟨Nat.lt_of_lt_of_le (hA.2 k hk).1 b.size, (hA.2 k hk).2⟩⟩, r⟩
theorem Sm.c0 {base d f c m : Nat} {X : Nat → Prop} {nf : Bool} {q : Option (List UInt8)} {w : World} (h : Sm base d f c m X nf q w) : w.cell? ⟨d, 0, none⟩ = some (.pointer (some ⟨f, 0, none⟩)) := by
  obtain ⟨fs, A, clock, h, r⟩ := h
  exact h.c0

theorem Sm.bm {B base d f c m : Nat} {X : Nat → Prop} {nf : Bool} {q : Option (List UInt8)} {w w' : World} (h : Sm base d f c m X nf q w) (b : Below w.heap.size w w') (hB : B ≤ w.heap.size) : Bm B X w w' := by
  obtain ⟨fs, A, clock, h, hA, r⟩ := h
  exact ⟨b.mono hB, fun k hk => b.block k (hA.2 k hk).1⟩
/-- A new block may be kept, too. -/
theorem Sm.keep {base d f c m : Nat} {nf : Bool} {q : Option (List UInt8)} {w : World} (h : Sm base d f c m (fun _ => False) nf q w) (o : Obj) : Sm base d f c m (fun k => k = w.heap.size) nf q (w.alloc o) := by
  obtain ⟨fs, A, clock, h, hA, r⟩ := h
  exact ⟨fs, A, clock, h.below ((Below.refl _ _).alloc (Nat.le_refl _) o), ⟨hA.1, fun k hk => ⟨by rw [hk]; simp, fun hm => by have := Mine.lt h k hm; omega⟩⟩, r⟩
/-- What Read says of the last number's file. -/
def qV : Option (List UInt8) → Value
  | none => .tuple #[.string ByteArray.empty, .int .i64 5]
  | some D => .tuple #[.string ⟨D.toArray⟩, .int .i64 0]
theorem sm_read {base d f c m : Nat} {X : Nat → Prop} {nf : Bool} {q : Option (List UInt8)} {w : World} (h : Sm base d f c m X nf q w) :
    Calls Try.prog 21 #[.pointer (some ⟨d, 0, none⟩), .string seqK] w fun e w' => e = .returned (qV q) ∧ Below w.heap.size w w' := by
  obtain ⟨fs, A, clock, h, hA, r⟩ := h
  have hs := r.seq
  cases q with
  | none => exact read_none base d f c m 10000 fs A clock seqK w h hs
  | some D =>
    obtain ⟨x, hx, h1, _⟩ := hs
    refine (read_go base d f c m 10000 fs A clock seqK w h x hx).mono ?_
    rintro e w' ⟨rfl, b⟩
    exact ⟨by rw [h1]; rfl, b⟩
theorem sm_arm {B base d f c m : Nat} {X : Nat → Prop} {nf : Bool} {q : Option (List UInt8)} (a : Int) (dn : Bool) {w : World} (h : Sm base d f c m X nf q w) (hB : Home B base d f c m) (ha : Ft.Fits (a, dn)) :
    Calls Try.prog 6 #[.pointer (some ⟨f, 0, none⟩), .int .i64 a, .bool dn] w fun e w' => ∃ er, e = .returned (.int .i64 er) ∧ Sm base d f c m X false q w' ∧ Bm B X w w' := by
  obtain ⟨fs, A, clock, h, hA0, r⟩ := h
  refine (arm_any f c A a dn w h.fuse ha).mono ?_
  rintro e w' (⟨rfl, hA, t⟩ | ⟨rfl, rfl⟩)
  · have n : Now base d f c m 10000 _ _ _ w w' := Now.tried h (Below.refl _ w) t hA
    obtain ⟨nb, nx⟩ := now_x h hB n hA0.2
    exact ⟨_, rfl, ⟨fs, _, clock, h.tried t hA, ⟨(fun h => by cases h), nx⟩, r⟩, nb⟩
  · exact ⟨_, rfl, ⟨fs, A, clock, h, ⟨(fun h => by cases h), hA0.2⟩, r⟩, Bm.refl _ _ _⟩
theorem sm_crash {B base d f c m : Nat} {X : Nat → Prop} {nf : Bool} {q : Option (List UInt8)} (v : Value) (cs : List Int) (gc : Option Nat) {w : World} (h : Sm base d f c m X nf q w) (hB : Home B base d f c m)
    (hi : IntsIn w v cs) (hr : Reach cs) (hg : 0 < cs.length → ∀ k, v.ownBlock = some k → gc = some k) (hgc : ∀ k, gc = some k → k < w.heap.size ∧ k < B) :
    Calls Try.prog 8 #[.pointer (some ⟨d, 0, none⟩), v] w fun e w' => e = .returned (.tuple #[]) ∧ Sm base d f c m X nf q w' ∧ Bm B X w w' := by
  obtain ⟨fs, A, clock, h, hA, r⟩ := h
  have hfew := r.few h.files.names
  refine (crash_any base d f c m 10000 fs A clock v cs gc w h (by omega) hi hr hg fun k hk => ⟨(hgc k hk).1, fun hm => ?_⟩).mono ?_
  · have h2 := (hgc k hk).2
    have h3 := hB.b; have h4 := hB.d; have h5 := hB.f; have h6 := hB.c; have h7 := hB.m
    rcases hm with e | e | e | e | ⟨x, hx, hxk⟩
    · omega
    · omega
    · omega
    · omega
    · have := ((h.files.sl x hx).lt k hxk).1
      omega
  · rintro e w' ⟨rfl, n⟩
    obtain ⟨nb, nx⟩ := now_x h hB n hA.2
    refine ⟨rfl, ?_, nb⟩
    obtain ⟨⟨ck, D'⟩, _⟩ := n
    exact ⟨_, _, ck, D', ⟨(fun _ => rfl), nx⟩, r.crash h.files.names _ _⟩

/-- The unfinished file, as Fresh goes. -/
def St (base d f c m : Nat) (X : Nat → Prop) (nf : Bool) (q : Option (List UInt8)) (t : Option (List UInt8 × Bool)) (w : World) : Prop := ∃ fs A clock, DiskAt base d f c m 10000 fs A clock w ∧ ((nf = true → A = []) ∧ ∀ k, X k → k < w.heap.size ∧ ¬ Mine d f c m fs k) ∧ Fq fs q ∧
  match t with | none => lookF tmpK fs = none | some (D, sy) => ∃ x, lookF tmpK fs = some x ∧ x.data = D ∧ (sy = true → x.data.length - x.sure = 0)
theorem St.sm {base d f c m : Nat} {X : Nat → Prop} {nf : Bool} {q : Option (List UInt8)} {t : Option (List UInt8 × Bool)} {w : World} (h : St base d f c m X nf q t w) : Sm base d f c m X nf q w := by
  obtain ⟨fs, A, clock, h, hA, r, _⟩ := h
  exact ⟨fs, A, clock, h, hA, r⟩
theorem Sm.st {base d f c m : Nat} {X : Nat → Prop} {nf : Bool} {q : Option (List UInt8)} {w : World} (h : Sm base d f c m X nf q w) : ∃ t, St base d f c m X nf q t w ∧ ∀ D s, t = some (D, s) → D.length ≤ 30 := by
  obtain ⟨fs, A, clock, h, hA, r⟩ := h
  cases e : lookF tmpK fs with
  | none => exact ⟨none, ⟨fs, A, clock, h, hA, r, e⟩, fun D s h => by cases h⟩
  | some x => exact ⟨some (x.data, false), ⟨fs, A, clock, h, hA, r, x, e, rfl, fun h => by cases h⟩, fun D s h => by cases h; exact r.small x (look_mem _ _ _ e).1⟩
theorem St.below {base d f c m : Nat} {X : Nat → Prop} {nf : Bool} {q : Option (List UInt8)} {t : Option (List UInt8 × Bool)} {w w' : World} (h : St base d f c m X nf q t w) (b : Below w.heap.size w w') : St base d f c m X nf q t w' := by
  obtain ⟨fs, A, clock, h, hA, r⟩ := h
  exact ⟨fs, A, clock, h.below b, ⟨hA.1, fun k hk => ⟨Nat.lt_of_lt_of_le (hA.2 k hk).1 b.size, (hA.2 k hk).2⟩⟩, r⟩
def tV : Option (List UInt8 × Bool) → Value
  | none => .tuple #[.string ByteArray.empty, .int .i64 5]
  | some (D, _) => .tuple #[.string ⟨D.toArray⟩, .int .i64 0]
theorem st_read {base d f c m : Nat} {X : Nat → Prop} {nf : Bool} {q : Option (List UInt8)} {t : Option (List UInt8 × Bool)} {w : World} (h : St base d f c m X nf q t w) :
    Calls Try.prog 21 #[.pointer (some ⟨d, 0, none⟩), .string tmpK] w fun e w' => e = .returned (tV t) ∧ Below w.heap.size w w' := by
  obtain ⟨fs, A, clock, h, hA, r, ht⟩ := h
  cases t with
  | none => exact read_none base d f c m 10000 fs A clock tmpK w h ht
  | some p =>
    obtain ⟨D, sy⟩ := p
    obtain ⟨x, hx, h1, _⟩ := ht
    refine (read_go base d f c m 10000 fs A clock tmpK w h x hx).mono ?_
    rintro e w' ⟨rfl, b⟩
    exact ⟨by rw [h1]; rfl, b⟩
theorem sm_free {base d f c m : Nat} {X : Nat → Prop} {nf : Bool} {q : Option (List UInt8)} {w : World} (h : Sm base d f c m X nf q w) :
    Calls Try.prog 26 #[.pointer (some ⟨d, 0, none⟩)] w fun e w' => ∃ F : Int, 9000 ≤ F ∧ F ≤ 10000 ∧ e = .returned (.int .i64 F) ∧ Below w.heap.size w w' := by
  obtain ⟨fs, A, clock, h, hA, r⟩ := h
  have hu := r.used h.files.names
  refine (free_any base d f c m 10000 fs A clock w h).mono ?_
  rintro e w' ⟨rfl, k, rfl⟩
  exact ⟨_, by omega, by omega, rfl, below_draw (Below.refl _ _) k⟩
theorem st_remove {B base d f c m : Nat} {X : Nat → Prop} {nf : Bool} {q : Option (List UInt8)} {t : Option (List UInt8 × Bool)} {w : World} (h : St base d f c m X nf q t w) (hB : Home B base d f c m) :
    Calls Try.prog 38 #[.pointer (some ⟨d, 0, none⟩), .string tmpK] w fun e w' => ∃ er, e = .returned (.int .i64 er) ∧ Bm B X w w' ∧ Sm base d f c m X nf q w' ∧
      (((er = 0 ∨ er = 5) ∧ St base d f c m X nf q none w') ∨ er = 8 ∧ nf = false) := by
  obtain ⟨fs, A, clock, h, hA, r, ht⟩ := h
  cases hl : lookF tmpK fs with
  | none =>
    refine (remove_none base d f c m 10000 fs A clock tmpK w h hl).mono ?_
    rintro e w' ⟨rfl, n⟩
    obtain ⟨nb, nx⟩ := now_x h hB n hA.2
    obtain ⟨⟨ck, D'⟩, _⟩ := n
    exact ⟨_, rfl, nb, ⟨fs, A, ck, D', ⟨hA.1, nx⟩, r⟩, .inl ⟨.inr rfl, fs, A, ck, D', ⟨hA.1, nx⟩, r, hl⟩⟩
  | some y =>
    refine (remove_go base d f c m 10000 fs A clock tmpK w h y hl).mono ?_
    rintro e w' ⟨rfl, n⟩
    obtain ⟨nb, nx⟩ := now_x h hB n hA.2
    obtain ⟨⟨ck, D'⟩, _⟩ := n
    refine ⟨_, rfl, nb, ⟨_, _, ck, D', ⟨(try_none hA.1).1, nx⟩, ?_⟩, ?_⟩
    · split
      · exact r.del
      · exact r
    · cases ho : (tryL A).1.1 with
      | true =>
        have hd := try_done A ho
        rw [hd, if_pos rfl] at D' nx
        exact .inl ⟨.inl rfl, _, _, ck, D', ⟨(try_none hA.1).1, nx⟩, r.del, look_none_of _ _ (del_mem tmpK fs h.files.names)⟩
      | false => exact .inr ⟨rfl, (try_none hA.1).2 ho⟩
theorem st_append {B base d f c m : Nat} {X : Nat → Prop} {nf : Bool} {q : Option (List UInt8)} (s : List UInt8) {w : World} (h : St base d f c m X nf q none w) (hB : Home B base d f c m) (hs : s.length ≤ 30) :
    Calls Try.prog 39 #[.pointer (some ⟨d, 0, none⟩), .string tmpK, .string ⟨s.toArray⟩] w fun e w' => ∃ er, e = .returned (.int .i64 er) ∧ Bm B X w w' ∧ Sm base d f c m X nf q w' ∧
      ((er = 0 ∧ St base d f c m X nf q (some (s, false)) w') ∨ er = 8 ∧ nf = false) := by
  obtain ⟨fs, A, clock, h, hA, r, ht⟩ := h
  have hu := r.used h.files.names
  have hsz : (⟨s.toArray⟩ : ByteArray).size = s.length := by simp [ByteArray.size]
  have hdf : dataF tmpK fs = [] := by unfold dataF; rw [show lookF tmpK fs = none from ht]; rfl
  refine (append_go base d f c m 10000 fs A clock tmpK ⟨s.toArray⟩ w h (by decide) (by rw [hsz]; omega) (by rw [hsz]; omega)).mono ?_
  rintro e w' ⟨rfl, v, n⟩
  rw [hdf, List.nil_append] at n
  obtain ⟨nb, nx⟩ := now_x h hB n hA.2
  obtain ⟨⟨ck, D'⟩, _⟩ := n
  refine ⟨_, rfl, nb, ⟨_, _, ck, D', ⟨(try_none hA.1).1, nx⟩, ?_⟩, ?_⟩
  · split
    · exact r.set h.files.names _ _ _ _ hs
    · exact r
  · cases ho : (tryL A).1.1 with
    | true =>
      have hd := try_done A ho
      rw [hd, if_pos rfl] at D' nx
      obtain ⟨x, hx, _, h2, _, _⟩ := look_set_same tmpK v s (sureF tmpK fs) clock fs
      exact .inl ⟨rfl, _, _, ck, D', ⟨(try_none hA.1).1, nx⟩, r.set h.files.names _ _ _ _ hs, x, hx, h2, fun h => by cases h⟩
    | false => exact .inr ⟨rfl, (try_none hA.1).2 ho⟩
theorem st_sync {B base d f c m : Nat} {X : Nat → Prop} {nf : Bool} {q : Option (List UInt8)} {s : List UInt8} {w : World} (h : St base d f c m X nf q (some (s, false)) w) (hB : Home B base d f c m) (hs : s.length ≤ 30) :
    Calls Try.prog 40 #[.pointer (some ⟨d, 0, none⟩), .string tmpK] w fun e w' => ∃ er, e = .returned (.int .i64 er) ∧ Bm B X w w' ∧ Sm base d f c m X nf q w' ∧
      ((er = 0 ∧ St base d f c m X nf q (some (s, true)) w') ∨ er = 8 ∧ nf = false) := by
  obtain ⟨fs, A, clock, h, hA, r, x, hx, hxd, _⟩ := h
  refine (sync_go base d f c m 10000 fs A clock tmpK w h x hx).mono ?_
  rintro e w' ⟨rfl, n⟩
  obtain ⟨nb, nx⟩ := now_x h hB n hA.2
  obtain ⟨⟨ck, D'⟩, _⟩ := n
  rw [hxd] at D' nx
  refine ⟨_, rfl, nb, ⟨_, _, ck, D', ⟨(try_none hA.1).1, nx⟩, ?_⟩, ?_⟩
  · split
    · exact r.set h.files.names _ _ _ _ hs
    · exact r
  · cases ho : (tryL A).1.1 with
    | true =>
      have hd := try_done A ho
      rw [hd, if_pos rfl] at D' nx
      obtain ⟨y, hy, _, h2, h3, _⟩ := look_set_same tmpK x.v s s.length clock fs
      exact .inl ⟨rfl, _, _, ck, D', ⟨(try_none hA.1).1, nx⟩, r.set h.files.names _ _ _ _ hs, y, hy, h2, fun _ => by rw [h2, h3]; omega⟩
    | false => exact .inr ⟨rfl, (try_none hA.1).2 ho⟩
theorem st_rename {B base d f c m : Nat} {X : Nat → Prop} {nf : Bool} {q : Option (List UInt8)} {s : List UInt8} {w : World} (h : St base d f c m X nf q (some (s, true)) w) (hB : Home B base d f c m) (hs : s.length ≤ 30) :
    Calls Try.prog 41 #[.pointer (some ⟨d, 0, none⟩), .string tmpK, .string seqK] w fun e w' => ∃ er q', e = .returned (.int .i64 er) ∧ Bm B X w w' ∧ Sm base d f c m X nf q' w' ∧
      (er = 0 ∧ q' = some s ∨ er = 8 ∧ nf = false ∧ (q' = q ∨ q' = some s)) := by
  obtain ⟨fs, A, clock, h, hA, r, x, hx, hxd, hxs⟩ := h
  refine (rename_go base d f c m 10000 fs A clock tmpK seqK w h x hx (by decide)).mono ?_
  rintro e w' ⟨rfl, b, n⟩
  obtain ⟨nb, nx⟩ := now_x h hB n hA.2
  obtain ⟨⟨ck, D'⟩, _⟩ := n
  rw [(look_mem _ _ _ hx).2] at D' nx
  have hmv := r.move h.files.names x.v x.data x.sure b (by rw [hxd]; exact hs) (hxs rfl)
  rw [hxd] at hmv D' nx
  cases hd : (tryL A).1.2 with
  | true =>
    rw [hd, if_pos rfl] at D' nx
    refine ⟨_, some s, rfl, nb, ⟨_, _, ck, D', ⟨(try_none hA.1).1, nx⟩, hmv⟩, ?_⟩
    cases ho : (tryL A).1.1 with
    | true => exact .inl ⟨rfl, rfl⟩
    | false => exact .inr ⟨rfl, (try_none hA.1).2 ho, .inr rfl⟩
  | false =>
    rw [hd, if_neg (by simp)] at D' nx
    refine ⟨_, q, rfl, nb, ⟨_, _, ck, D', ⟨(try_none hA.1).1, nx⟩, r⟩, ?_⟩
    cases ho : (tryL A).1.1 with
    | true => rw [try_done A ho] at hd; cases hd
    | false => exact .inr ⟨rfl, (try_none hA.1).2 ho, .inl rfl⟩
end Go.Proofs.Ytiegokjdnlhlcaa

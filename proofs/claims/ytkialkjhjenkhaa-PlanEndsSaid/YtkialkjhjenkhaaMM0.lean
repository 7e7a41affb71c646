/- Layer 9 in plain words: metas as fields, fields as metas; a byte of a record that is another one. No program's text. -/
import Derived.Test.YtkialkjhjenkhaaMZ0
import Derived.Test.YtkialkjhjenkhaaMI0
namespace Go.Proofs.Ytkialkjhjenkhaa.Mt

/-- What is left, the first error. -/
abbrev St := List UInt8 × Nat
def tn (st : St) (most : Int) : Nat × St := if st.2 ≠ 0 then (0, st) else ((Leb.takeM st.1 most).1, (Leb.takeM st.1 most).2)
def tt (st : St) (most : Int) : List UInt8 × St := if st.2 ≠ 0 then ([], st) else ((Leb.takeT st.1 most).1, (Leb.takeT st.1 most).2)
def dem (st : St) (b : Bool) : St := if st.2 = 0 ∧ b = false then (st.1, 3) else st

structure Fl where
  name : List UInt8
  size : Int
  sum : Nat
structure Me where
  id : List UInt8
  mn : Int
  mx : Int
  lv : Int
  se : Int
  sa : Int
  files : List Fl
  src : List (List UInt8)
def zMe : Me := ⟨[], 0, 0, 0, 0, 0, [], []⟩

/-- Is it a block's name? -/
def isN (l : List UInt8) : Bool := decide (l.length = 16) && (Idn.num (l.take 8) 0).isSome && (Idn.num (l.drop 8) 0).isSome

/-- May it be said? -/
def okF (f : Fl) (name : List UInt8) : Bool := decide (f.name = name) && decide (0 ≤ f.size) && decide (f.size ≤ 1048576)
def nmC : List UInt8 := [99, 104, 117, 110, 107, 115]
def nmI : List UInt8 := [105, 110, 100, 101, 120]
def okFs : List Fl → Bool
  | [f, g] => okF f nmC && okF g nmI
  | _ => false
def okSs (id : List UInt8) : Option (List UInt8) → List (List UInt8) → Bool
  | _, [] => true
  | p, s :: l => isN s && !decide (s = id) && (match p with | none => true | some q => decide (q < s)) && okSs id (some s) l
def okT (m : Me) : Bool := decide (0 ≤ m.mn) && decide (m.mn < m.mx) && decide (m.mx ≤ 1099511627776)
def okN (m : Me) : Bool := decide (1 ≤ m.lv) && decide (m.lv ≤ 9) && decide (0 ≤ m.se) && decide (m.se ≤ m.sa) && decide (m.sa ≤ 1073741824)
def okS (m : Me) : Bool := decide (m.src.length ≤ 50) && okSs m.id none m.src
def chk (m : Me) : Bool := isN m.id && okT m && okN m && okFs m.files && okS m

/-- Its fields. -/
def flB (f : Fl) : List UInt8 := Leb.encT f.name ++ (Leb.encU f.size.toNat ++ Leb.encU f.sum)
def fld (m : Me) : List UInt8 :=
  Leb.encT m.id ++ (Leb.encU m.mn.toNat ++ (Leb.encU m.mx.toNat ++ (Leb.encU m.lv.toNat ++ (Leb.encU m.se.toNat ++ (Leb.encU m.sa.toNat ++ (m.files.flatMap flB ++ (Leb.encU m.src.length ++ m.src.flatMap Leb.encT)))))))

def fl (st : St) : Fl × St :=
  let a := tt st 40
  let b := tn a.2 1048576
  let c := tn b.2 4294967295
  (⟨a.1, b.1, c.1⟩, c.2)
def txs : Nat → St → List (List UInt8) × St
  | 0, st => ([], st)
  | n + 1, st => ((tt st 16).1 :: (txs n (tt st 16).2).1, (txs n (tt st 16).2).2)
def me (st : St) : Me × St :=
  let a := tt st 16
  let b := tn a.2 1099511627776
  let c := tn b.2 1099511627776
  let d := tn c.2 9
  let e := tn d.2 1073741824
  let f := tn e.2 1073741824
  let g := fl f.2
  let h := fl g.2
  let n := tn h.2 50
  let s := txs n.1 n.2
  (⟨a.1, b.1, c.1, d.1, e.1, f.1, [g.1, h.1], s.1⟩, s.2)
def meC (st : St) : Me × St := ((me st).1, dem (me st).2 (chk (me st).1))
def opn (s : List UInt8) (k : UInt8) : St := dem ((Fr.next s).1.2, (Fr.next s).2.2) (decide ((Fr.next s).2.1 = []) && decide ((Fr.next s).1.1 = k))
def dcd (s : List UInt8) : Me × St := ((meC (opn s 1)).1, dem (meC (opn s 1)).2 (decide ((meC (opn s 1)).2.1 = [])))
def mkB (id : List UInt8) (at' : Nat) : List UInt8 := Leb.encT id ++ Leb.encU at'
def dmk (s : List UInt8) : List UInt8 × Nat × St :=
  let t := opn s 2
  let a := tt t 16
  let b := tn a.2 1099511627776
  (a.1, b.1, dem b.2 (decide (b.2.1 = []) && isN a.1))

/-! There and back. -/
theorem takeM_enc (n : Nat) (most : Int) (t : List UInt8) (h : (n : Int) ≤ most) (h2 : n < Leb.two64) : Leb.takeM (Leb.encU n ++ t) most = (n, t, 0) := by
  unfold Leb.takeM
  rw [Leb.takeU_enc n h2 t, if_neg (by simp), if_neg (by simp only; omega)]
theorem tn_enc (n : Nat) (most : Int) (t : List UInt8) (h : (n : Int) ≤ most) (h2 : n < Leb.two64) : tn (Leb.encU n ++ t, 0) most = (n, (t, 0)) := by
  unfold tn
  rw [if_neg (by simp)]
  simp only
  rw [takeM_enc n most t h h2]
theorem tt_enc (s : List UInt8) (most : Int) (t : List UInt8) (h : (s.length : Int) ≤ most) (h2 : s.length < Leb.two64) : tt (Leb.encT s ++ t, 0) most = (s, (t, 0)) := by
  unfold tt
  rw [if_neg (by simp)]
  simp only
  rw [Leb.takeT_enc s t most h h2]
theorem isN_len {l : List UInt8} (h : isN l = true) : l.length = 16 := by
  unfold isN at h
  simp only [Bool.and_eq_true, decide_eq_true_eq] at h
  exact h.1.1
theorem okSs_mem {id : List UInt8} : ∀ {p : Option (List UInt8)} {l : List (List UInt8)}, okSs id p l = true → ∀ s ∈ l, isN s = true
  | _, [], _, _, hs => by simp at hs
  | p, x :: l, h, s, hs => by
    unfold okSs at h
    simp only [Bool.and_eq_true] at h
    rcases List.mem_cons.1 hs with rfl | hs
    · exact h.1.1.1
    · exact okSs_mem h.2 s hs
theorem txs_enc (t : List UInt8) : ∀ (l : List (List UInt8)), (∀ s ∈ l, s.length = 16) → txs l.length (l.flatMap Leb.encT ++ t, 0) = (l, (t, 0))
  | [], _ => rfl
  | s :: l, h => by
    have h16 := h s (by simp)
    rw [List.length_cons, txs, List.flatMap_cons, List.append_assoc, tt_enc s 16 _ (by omega) (by unfold Leb.two64; omega)]
    simp only
    rw [txs_enc t l fun x hx => h x (by simp [hx])]
theorem fl_enc (f : Fl) (name t : List UInt8) (h : okF f name = true) (hn : name.length ≤ 40) (hs : f.sum < 4294967296) : fl (flB f ++ t, 0) = (f, (t, 0)) := by
  unfold okF at h
  simp only [Bool.and_eq_true, decide_eq_true_eq] at h
  obtain ⟨⟨h1, h2⟩, h3⟩ := h
  unfold fl flB
  simp only [List.append_assoc]
  rw [tt_enc f.name 40 _ (by rw [h1]; omega) (by rw [h1]; unfold Leb.two64; omega)]
  simp only
  rw [tn_enc _ 1048576 _ (by omega) (by unfold Leb.two64; omega)]
  simp only
  rw [tn_enc _ 4294967295 _ (by omega) (by unfold Leb.two64; omega)]
  simp only
  rw [Int.toNat_of_nonneg h2]
theorem okFs_two {l : List Fl} (h : okFs l = true) : ∃ f g, l = [f, g] ∧ okF f nmC = true ∧ okF g nmI = true := by
  match l, h with
  | [f, g], h =>
    rw [okFs, Bool.and_eq_true] at h
    exact ⟨f, g, rfl, h.1, h.2⟩
theorem me_fld (m : Me) (t : List UInt8) (h : chk m = true) (hs : ∀ f ∈ m.files, f.sum < 4294967296) : me (fld m ++ t, 0) = (m, (t, 0)) := by
  unfold chk at h
  simp only [Bool.and_eq_true] at h
  obtain ⟨⟨⟨⟨h1, h2⟩, h3⟩, h4⟩, h5⟩ := h
  have hid := isN_len h1
  unfold okT at h2
  unfold okN at h3
  unfold okS at h5
  simp only [Bool.and_eq_true, decide_eq_true_eq] at h2 h3 h5
  obtain ⟨f, g, hf, hf1, hf2⟩ := okFs_two h4
  have hsf := hs f (by rw [hf]; simp)
  have hsg := hs g (by rw [hf]; simp)
  unfold me fld
  rw [hf]
  simp only [List.append_assoc, List.flatMap_cons, List.flatMap_nil, List.nil_append]
  rw [tt_enc m.id 16 _ (by omega) (by unfold Leb.two64; omega)]
  simp only
  rw [tn_enc _ 1099511627776 _ (by omega) (by unfold Leb.two64; omega)]
  simp only
  rw [tn_enc _ 1099511627776 _ (by omega) (by unfold Leb.two64; omega)]
  simp only
  rw [tn_enc _ 9 _ (by omega) (by unfold Leb.two64; omega)]
  simp only
  rw [tn_enc _ 1073741824 _ (by omega) (by unfold Leb.two64; omega)]
  simp only
  rw [tn_enc _ 1073741824 _ (by omega) (by unfold Leb.two64; omega)]
  simp only
  rw [fl_enc f nmC _ hf1 (by decide) hsf]
  simp only
  rw [fl_enc g nmI _ hf2 (by decide) hsg]
  simp only
  rw [tn_enc _ 50 _ (by omega) (by unfold Leb.two64; omega)]
  simp only
  rw [txs_enc t m.src fun s hs => isN_len (okSs_mem h5.2 s hs)]
  simp only
  rw [Int.toNat_of_nonneg h2.1.1, Int.toNat_of_nonneg (by omega), Int.toNat_of_nonneg (by omega), Int.toNat_of_nonneg h3.1.1.2, Int.toNat_of_nonneg (by omega), ← hf]

theorem flat_len (l : List (List UInt8)) (h : ∀ s ∈ l, s.length = 16) : (l.flatMap Leb.encT).length ≤ 26 * l.length := by
  induction l with
  | nil => simp
  | cons s l ih =>
    have h1 := ih fun x hx => h x (by simp [hx])
    have h2 := h s (by simp)
    have h3 := (Leb.encU_len s.length).2
    rw [List.flatMap_cons, List.length_append, Leb.encT, List.length_append, List.length_cons]
    omega
theorem fld_len (m : Me) (h : chk m = true) : (fld m).length ≤ 1600 := by
  unfold chk at h
  simp only [Bool.and_eq_true] at h
  obtain ⟨⟨⟨⟨h1, h2⟩, h3⟩, h4⟩, h5⟩ := h
  unfold okS at h5
  simp only [Bool.and_eq_true, decide_eq_true_eq] at h5
  obtain ⟨f, g, hf, hf1, hf2⟩ := okFs_two h4
  unfold okF at hf1 hf2
  simp only [Bool.and_eq_true, decide_eq_true_eq] at hf1 hf2
  have hid := isN_len h1
  have hfl := flat_len m.src fun s hs => isN_len (okSs_mem h5.2 s hs)
  have n1 : f.name.length = 6 := by rw [hf1.1.1]; decide
  have n2 : g.name.length = 5 := by rw [hf2.1.1]; decide
  have hfB : ∀ f : Fl, (flB f).length ≤ f.name.length + 30 := fun f => by
    have := (Leb.encU_len f.name.length).2
    have := (Leb.encU_len f.size.toNat).2
    have := (Leb.encU_len f.sum).2
    rw [flB, List.length_append, List.length_append, Leb.encT, List.length_append]
    omega
  have b1 := hfB f
  have b2 := hfB g
  have e1 := (Leb.encU_len m.id.length).2
  have e2 := (Leb.encU_len m.mn.toNat).2
  have e3 := (Leb.encU_len m.mx.toNat).2
  have e4 := (Leb.encU_len m.lv.toNat).2
  have e5 := (Leb.encU_len m.se.toNat).2
  have e6 := (Leb.encU_len m.sa.toNat).2
  have e13 := (Leb.encU_len m.src.length).2
  have hm : (m.files.flatMap flB).length = (flB f).length + (flB g).length := by rw [hf]; simp
  have hsl := h5.1
  clear h1 h2 h3 h4 h5 hf1 hf2 hf hfB
  have eT : (Leb.encT m.id).length = (Leb.encU m.id.length).length + m.id.length := by rw [Leb.encT, List.length_append]
  unfold fld
  simp only [List.length_append]
  rw [hm, eT]
  omega
theorem dcd_fld (m : Me) (h : chk m = true) (hs : ∀ f ∈ m.files, f.sum < 4294967296) : dcd (Fr.rec 1 (fld m)) = (m, ([], 0)) := by
  have h1 := Fr.next_rec 1 (fld m) [] (by have := fld_len m h; omega)
  rw [List.append_nil] at h1
  have h2 : opn (Fr.rec 1 (fld m)) 1 = (fld m, 0) := by
    unfold opn dem
    rw [h1]
    simp
  have h3 := me_fld m [] h hs
  rw [List.append_nil] at h3
  unfold dcd meC
  rw [h2, h3]
  simp only
  rw [h]
  simp [dem]

/-! One spelling. -/
theorem tn_one {st : St} {most : Int} {v : Nat} {r : List UInt8} (h : tn st most = (v, (r, 0))) (hm : 0 ≤ most) : st.2 = 0 ∧ Leb.encU v ++ r = st.1 ∧ (v : Int) ≤ most := by
  unfold tn at h
  split at h
  · rename_i h0
    rw [Prod.mk.injEq] at h
    rw [h.2] at h0
    exact absurd rfl h0
  · rename_i h0
    have h0' : st.2 = 0 := by omega
    unfold Leb.takeM at h
    split at h
    · rename_i h1
      simp only [Prod.mk.injEq] at h
      exact absurd h.2.2 h1
    · split at h
      · simp at h
      · rename_i h1 h2
        obtain ⟨e1, e2⟩ := Leb.takeU_one st.1 r v (by rw [← h])
        rw [Prod.mk.injEq] at h
        rw [h.1] at h2
        exact ⟨h0', e1, by omega⟩
theorem takeT_one {l : List UInt8} {most : Int} {s r : List UInt8} (hm : 0 ≤ most) (h : Leb.takeT l most = (s, r, 0)) : Leb.encT s ++ r = l ∧ (s.length : Int) ≤ most := by
  unfold Leb.takeT at h
  split at h
  · rename_i h1
    simp only [Prod.mk.injEq] at h
    exact absurd h.2.2 h1
  · split at h
    · simp at h
    · rename_i h1 h2
      obtain ⟨u, t, e, hu⟩ : ∃ u t e, Leb.takeM l most = (u, t, e) := ⟨_, _, _, rfl⟩
      rw [hu] at h h1 h2
      simp only [Prod.mk.injEq] at h h1 h2
      have he : e = 0 := by omega
      subst he
      obtain ⟨_, k2, k3⟩ := tn_one (st := (l, 0)) (most := most) (v := u) (r := t) (by unfold tn; rw [if_neg (by simp)]; simp only; rw [hu]) hm
      obtain ⟨rfl, rfl, _⟩ := h
      have hl : (t.take u).length = u := by rw [List.length_take]; omega
      refine ⟨?_, by rw [hl]; exact k3⟩
      rw [Leb.encT, hl, List.append_assoc, List.take_append_drop]
      exact k2
theorem tt_one {st : St} {most : Int} {s r : List UInt8} (h : tt st most = (s, (r, 0))) (hm : 0 ≤ most) : st.2 = 0 ∧ Leb.encT s ++ r = st.1 ∧ (s.length : Int) ≤ most := by
  unfold tt at h
  split at h
  · rename_i h0
    rw [Prod.mk.injEq] at h
    rw [h.2] at h0
    exact absurd rfl h0
  · rename_i h0
    obtain ⟨k1, k2⟩ := takeT_one (l := st.1) (s := s) (r := r) hm (by rw [← h])
    exact ⟨by omega, k1, k2⟩
theorem txs_one : ∀ (n : Nat) (st : St) (l : List (List UInt8)) (r : List UInt8), txs n st = (l, (r, 0)) → st.2 = 0 ∧ l.length = n ∧ l.flatMap Leb.encT ++ r = st.1
  | 0, st, l, r, h => by
    rw [txs, Prod.mk.injEq] at h
    obtain ⟨rfl, h2⟩ := h
    exact ⟨by rw [h2], rfl, by rw [h2]; rfl⟩
  | n + 1, st, l, r, h => by
    rw [txs, Prod.mk.injEq] at h
    obtain ⟨h1, h2⟩ := h
    obtain ⟨k1, k2, k3⟩ := txs_one n (tt st 16).2 (txs n (tt st 16).2).1 r (by rw [← h2])
    obtain ⟨j1, j2, _⟩ := tt_one (st := st) (most := 16) (s := (tt st 16).1) (r := (tt st 16).2.1) (by rw [← k1]) (by omega)
    subst h1
    exact ⟨j1, by rw [List.length_cons, k2], by rw [List.flatMap_cons, List.append_assoc, k3, j2]⟩
theorem fl_one {st : St} {f : Fl} {r : List UInt8} (h : fl st = (f, (r, 0))) : st.2 = 0 ∧ flB f ++ r = st.1 ∧ f.sum < 4294967296 := by
  unfold fl at h
  simp only [Prod.mk.injEq] at h
  obtain ⟨h1, h2⟩ := h
  obtain ⟨a1, a2, a3⟩ := tn_one (st := (tn (tt st 40).2 1048576).2) (most := 4294967295) (v := (tn (tn (tt st 40).2 1048576).2 4294967295).1) (r := r) (by rw [← h2]) (by omega)
  obtain ⟨b1, b2, b3⟩ := tn_one (st := (tt st 40).2) (most := 1048576) (v := (tn (tt st 40).2 1048576).1) (r := (tn (tt st 40).2 1048576).2.1) (by rw [← a1]) (by omega)
  obtain ⟨c1, c2, _⟩ := tt_one (st := st) (most := 40) (s := (tt st 40).1) (r := (tt st 40).2.1) (by rw [← b1]) (by omega)
  subst h1
  refine ⟨c1, ?_, by simp only; omega⟩
  unfold flB
  simp only [Int.toNat_natCast]
  rw [List.append_assoc, List.append_assoc, a2, b2, c2]
theorem tn_o {st : St} {most : Int} (h : (tn st most).2.2 = 0) (hm : 0 ≤ most) : st.2 = 0 ∧ Leb.encU (tn st most).1 ++ (tn st most).2.1 = st.1 ∧ ((tn st most).1 : Int) ≤ most := tn_one (Prod.ext rfl (Prod.ext rfl h)) hm
theorem tt_o {st : St} {most : Int} (h : (tt st most).2.2 = 0) (hm : 0 ≤ most) : st.2 = 0 ∧ Leb.encT (tt st most).1 ++ (tt st most).2.1 = st.1 ∧ ((tt st most).1.length : Int) ≤ most := tt_one (Prod.ext rfl (Prod.ext rfl h)) hm
theorem fl_o {st : St} (h : (fl st).2.2 = 0) : st.2 = 0 ∧ flB (fl st).1 ++ (fl st).2.1 = st.1 ∧ (fl st).1.sum < 4294967296 := fl_one (Prod.ext rfl (Prod.ext rfl h))
theorem txs_o {n : Nat} {st : St} (h : (txs n st).2.2 = 0) : st.2 = 0 ∧ (txs n st).1.length = n ∧ (txs n st).1.flatMap Leb.encT ++ (txs n st).2.1 = st.1 := txs_one n st _ _ (Prod.ext rfl (Prod.ext rfl h))
theorem me_one {st : St} {m : Me} {r : List UInt8} (h : me st = (m, (r, 0))) : st.2 = 0 ∧ fld m ++ r = st.1 ∧ ∀ f ∈ m.files, f.sum < 4294967296 := by
  unfold me at h
  simp only [Prod.mk.injEq] at h
  obtain ⟨h1, h2⟩ := h
  obtain ⟨a, ha⟩ : ∃ a, a = tt st 16 := ⟨_, rfl⟩
  rw [← ha] at h1 h2
  obtain ⟨b, hb⟩ : ∃ b, b = tn a.2 1099511627776 := ⟨_, rfl⟩
  rw [← hb] at h1 h2
  obtain ⟨c, hc⟩ : ∃ c, c = tn b.2 1099511627776 := ⟨_, rfl⟩
  rw [← hc] at h1 h2
  obtain ⟨d, hd⟩ : ∃ d, d = tn c.2 9 := ⟨_, rfl⟩
  rw [← hd] at h1 h2
  obtain ⟨e, he⟩ : ∃ e, e = tn d.2 1073741824 := ⟨_, rfl⟩
  rw [← he] at h1 h2
  obtain ⟨f, hf⟩ : ∃ f, f = tn e.2 1073741824 := ⟨_, rfl⟩
  rw [← hf] at h1 h2
  obtain ⟨g, hg⟩ : ∃ g, g = fl f.2 := ⟨_, rfl⟩
  rw [← hg] at h1 h2
  obtain ⟨k, hk⟩ : ∃ k, k = fl g.2 := ⟨_, rfl⟩
  rw [← hk] at h1 h2
  obtain ⟨n, hn⟩ : ∃ n, n = tn k.2 50 := ⟨_, rfl⟩
  rw [← hn] at h1 h2
  obtain ⟨s1, s2, s3⟩ := txs_o (n := n.1) (st := n.2) (by rw [h2])
  obtain ⟨n1, n2, _⟩ := tn_o (st := k.2) (most := 50) (by rw [← hn]; exact s1) (by omega)
  rw [← hn] at n2
  obtain ⟨k1, k2, k3⟩ := fl_o (st := g.2) (by rw [← hk]; exact n1)
  rw [← hk] at k2 k3
  obtain ⟨g1, g2, g3⟩ := fl_o (st := f.2) (by rw [← hg]; exact k1)
  rw [← hg] at g2 g3
  obtain ⟨f1, f2, _⟩ := tn_o (st := e.2) (most := 1073741824) (by rw [← hf]; exact g1) (by omega)
  rw [← hf] at f2
  obtain ⟨e1, e2, _⟩ := tn_o (st := d.2) (most := 1073741824) (by rw [← he]; exact f1) (by omega)
  rw [← he] at e2
  obtain ⟨d1, d2, _⟩ := tn_o (st := c.2) (most := 9) (by rw [← hd]; exact e1) (by omega)
  rw [← hd] at d2
  obtain ⟨c1, c2, _⟩ := tn_o (st := b.2) (most := 1099511627776) (by rw [← hc]; exact d1) (by omega)
  rw [← hc] at c2
  obtain ⟨b1, b2, _⟩ := tn_o (st := a.2) (most := 1099511627776) (by rw [← hb]; exact c1) (by omega)
  rw [← hb] at b2
  obtain ⟨a1, a2, _⟩ := tt_o (st := st) (most := 16) (by rw [← ha]; exact b1) (by omega)
  rw [← ha] at a2
  rw [h2] at s3
  subst h1
  refine ⟨a1, ?_, fun x hx => ?_⟩
  · unfold fld
    simp only [Int.toNat_natCast, List.append_assoc, List.flatMap_cons, List.flatMap_nil, List.nil_append]
    rw [s2, s3, n2, k2, g2, f2, e2, d2, c2, b2, a2]
  · simp only [List.mem_cons, List.not_mem_nil, or_false] at hx
    rcases hx with rfl | rfl
    · exact g3
    · exact k3

theorem dem_ok {st : St} {b : Bool} (h : (dem st b).2 = 0) : st.2 = 0 ∧ b = true ∧ dem st b = st := by
  unfold dem at h ⊢
  split at h
  · simp at h
  · rename_i h1
    rw [if_neg h1]
    refine ⟨h, ?_, rfl⟩
    cases b
    · exact absurd ⟨h, rfl⟩ h1
    · rfl
theorem next_one {s d r : List UInt8} {k : UInt8} (h : Fr.next s = ((k, d), r, 0)) : Fr.rec k d ++ r = s ∧ d.length ≤ 1048576 := by
  cases s with
  | nil => simp [Fr.next] at h
  | cons c l =>
    obtain ⟨n, t, e, hT⟩ : ∃ n t e, Leb.takeM l 1048576 = (n, t, e) := ⟨_, _, _, rfl⟩
    rw [Fr.next, hT] at h
    simp only at h
    split at h
    · rename_i h1
      simp only [Prod.mk.injEq] at h
      exact absurd h.2.2 h1
    · split at h
      · simp at h
      · split at h
        · simp at h
        · rename_i h1 h2 h3
          have he : e = 0 := by omega
          subst he
          obtain ⟨_, k2, k3⟩ := tn_one (st := (l, 0)) (most := 1048576) (v := n) (r := t) (by unfold tn; rw [if_neg (by simp)]; simp only; rw [hT]) (by omega)
          simp only [Prod.mk.injEq, and_true] at h
          obtain ⟨⟨rfl, rfl⟩, rfl⟩ := h
          have hs : Fr.rsum c ((t.drop 4).take n) = Fr.gk t 4 := by
            by_cases hq : Fr.rsum c ((t.drop 4).take n) = Fr.gk t 4
            · exact hq
            · exact absurd hq h3
          have hl : ((t.drop 4).take n).length = n := by rw [List.length_take, List.length_drop]; omega
          refine ⟨?_, by rw [hl]; omega⟩
          unfold Fr.rec
          rw [hl, hs, Fr.put_get t 4 (by omega) 4 (Nat.le_refl _)]
          simp only [List.cons_append, List.append_assoc]
          congr 1
          have k2' : Leb.encU n ++ t = l := k2
          rw [← k2']
          congr 1
          rw [show t.drop (4 + n) = (t.drop 4).drop n by rw [List.drop_drop], List.take_append_drop, List.take_append_drop]
theorem opn_ok {s : List UInt8} {k : UInt8} (h : (opn s k).2 = 0) : Fr.rec k (opn s k).1 = s ∧ Fr.next s = ((k, (opn s k).1), [], 0) := by
  unfold opn at h ⊢
  obtain ⟨h1, h2, h3⟩ := dem_ok h
  rw [h3]
  simp only [Bool.and_eq_true, decide_eq_true_eq] at h2 ⊢
  obtain ⟨h4, h5⟩ := h2
  have hn : Fr.next s = ((k, (Fr.next s).1.2), [], 0) := Prod.ext (Prod.ext h5 rfl) (Prod.ext h4 h1)
  have := (next_one hn).1
  rw [List.append_nil] at this
  exact ⟨this, hn⟩
theorem meC_one {st : St} (h : (meC st).2.2 = 0) (h' : (meC st).2.1 = []) : st.2 = 0 ∧ fld (meC st).1 = st.1 ∧ chk (meC st).1 = true ∧ ∀ f ∈ (meC st).1.files, f.sum < 4294967296 := by
  obtain ⟨p, hp⟩ : ∃ p, p = me st := ⟨_, rfl⟩
  have e : meC st = (p.1, dem p.2 (chk p.1)) := by rw [hp]; rfl
  rw [e] at h h' ⊢
  obtain ⟨h3, h4, h5⟩ := dem_ok h
  have h6 : p.2.1 = [] := by rw [← h5]; exact h'
  obtain ⟨k1, k2, k3⟩ := me_one (st := st) (m := p.1) (r := []) (hp ▸ Prod.ext rfl (Prod.ext h6 h3))
  rw [List.append_nil] at k2
  exact ⟨k1, k2, h4, k3⟩
theorem dcd_one {s : List UInt8} (h : (dcd s).2.2 = 0) : Fr.rec 1 (fld (dcd s).1) = s ∧ chk (dcd s).1 = true ∧ (∀ f ∈ (dcd s).1.files, f.sum < 4294967296) ∧ (opn s 1).2 = 0 := by
  obtain ⟨p, hp⟩ : ∃ p, p = meC (opn s 1) := ⟨_, rfl⟩
  have e : dcd s = (p.1, dem p.2 (decide (p.2.1 = []))) := by rw [hp]; rfl
  rw [e] at h ⊢
  obtain ⟨h1, h2, _⟩ := dem_ok h
  rw [decide_eq_true_eq] at h2
  rw [hp] at h1 h2
  obtain ⟨k1, k2, k3, k4⟩ := meC_one h1 h2
  rw [← hp] at k2 k3 k4
  refine ⟨?_, k3, k4, k1⟩
  show Fr.rec 1 (fld p.1) = s
  rw [k2]
  exact (opn_ok k1).1
theorem dmk_one {s : List UInt8} (h : (dmk s).2.2.2 = 0) : Fr.rec 2 (mkB (dmk s).1 (dmk s).2.1) = s ∧ (dmk s).2.1 ≤ 1099511627776 ∧ (dmk s).1.length = 16 ∧ (opn s 2).2 = 0 := by
  unfold dmk at h ⊢
  simp only at h ⊢
  obtain ⟨h1, h2, _⟩ := dem_ok h
  simp only [Bool.and_eq_true, decide_eq_true_eq] at h2
  obtain ⟨b1, b2, b3⟩ := tn_o (st := (tt (opn s 2) 16).2) (most := 1099511627776) h1 (by omega)
  obtain ⟨a1, a2, _⟩ := tt_o (st := opn s 2) (most := 16) b1 (by omega)
  rw [h2.1] at b2
  rw [List.append_nil] at b2
  refine ⟨?_, by omega, isN_len h2.2, a1⟩
  unfold mkB
  rw [b2, a2]
  exact (opn_ok a1).1
theorem dmk_mk (id : List UInt8) (n : Nat) (h : isN id = true) (hn : n ≤ 1099511627776) : dmk (Fr.rec 2 (mkB id n)) = (id, n, ([], 0)) := by
  have hl := isN_len h
  have h1 := Fr.next_rec 2 (mkB id n) [] (by
    have := (Leb.encU_len id.length).2
    have := (Leb.encU_len n).2
    rw [mkB, List.length_append, Leb.encT, List.length_append]; omega)
  rw [List.append_nil] at h1
  have h2 : opn (Fr.rec 2 (mkB id n)) 2 = (mkB id n, 0) := by
    unfold opn dem
    rw [h1]
    simp
  have h3 := tn_enc n 1099511627776 [] (by omega) (by unfold Leb.two64; omega)
  rw [List.append_nil] at h3
  unfold dmk
  rw [h2]
  simp only
  unfold mkB
  rw [tt_enc id 16 _ (by omega) (by unfold Leb.two64; omega)]
  simp only
  rw [h3]
  simp only
  rw [h]
  simp [dem]
theorem not_both {s : List UInt8} (h1 : (opn s 1).2 = 0) (h2 : (opn s 2).2 = 0) : False := by
  have k1 := (opn_ok h1).2
  have k2 := (opn_ok h2).2
  rw [k1] at k2
  simp at k2

/-! A byte that is another one. -/
theorem rec_same_len {k k' : UInt8} {d d' : List UInt8} (h : (Fr.rec k d).length = (Fr.rec k' d').length) : d.length = d'.length := by
  simp only [Fr.rec, List.length_cons, List.length_append, Fr.le_len] at h
  rcases Nat.lt_trichotomy d.length d'.length with h1 | h1 | h1
  · have := Leb.enc_mono 9 d.length d'.length (by omega)
    unfold Leb.encU at h
    omega
  · exact h1
  · have := Leb.enc_mono 9 d'.length d.length (by omega)
    unfold Leb.encU at h
    omega
theorem le_inj {a b : Nat} (ha : a < 4294967296) (hb : b < 4294967296) (h : Fr.le a 4 = Fr.le b 4) : a = b := by
  have h1 := Fr.get_put a [] ha
  have h2 := Fr.get_put b [] hb
  rw [h, h2] at h1
  exact h1.symm
theorem split_one {α : Type} {P Q P' Q' A B : List α} {x y : α} (hl : P.length = P'.length) (h : P ++ Q = A ++ x :: B) (h' : P' ++ Q' = A ++ y :: B) :
    (Q = Q' ∧ ∃ C, P = A ++ x :: C ∧ P' = A ++ y :: C) ∨ (P = P' ∧ ∃ C, Q = C ++ x :: B ∧ Q' = C ++ y :: B) := by
  rcases List.append_eq_append_iff.1 h with ⟨a', hA, hQ⟩ | ⟨c', hP, hB⟩
  · rw [hA, List.append_assoc] at h'
    obtain ⟨h1, h2⟩ := List.append_inj h' hl.symm
    exact .inr ⟨h1.symm, a', hQ, h2⟩
  · cases c' with
    | nil =>
      rw [List.append_nil] at hP
      rw [← hP] at h'
      obtain ⟨h1, h2⟩ := List.append_inj h' hl.symm
      exact .inr ⟨h1.symm, [], hB.symm, h2⟩
    | cons c c' =>
      simp only [List.cons_append, List.cons.injEq] at hB
      obtain ⟨rfl, rfl⟩ := hB
      have h2 : P' ++ Q' = (A ++ y :: c') ++ Q := by rw [h']; simp
      obtain ⟨h3, h4⟩ := List.append_inj h2 (by rw [← hl, hP]; simp)
      exact .inl ⟨h4.symm, c', hP, h3⟩
/-- A record with one byte changed is no record. -/
theorem rec_bent {k k' : UInt8} {d d' A B : List UInt8} {x y : UInt8} (hxy : x ≠ y) (h : Fr.rec k d = A ++ x :: B) (h' : Fr.rec k' d' = A ++ y :: B) : False := by
  have hl : d.length = d'.length := rec_same_len (by rw [h, h']; simp)
  have e : ∀ (k : UInt8) (d : List UInt8), Fr.rec k d = [k] ++ (Leb.encU d.length ++ (Fr.le (Fr.rsum k d) 4 ++ d)) := fun _ _ => rfl
  rw [e] at h h'
  rw [← hl] at h'
  rcases split_one (show [k].length = [k'].length from rfl) h h' with ⟨h1, C, h2, h3⟩ | ⟨h1, A1, h2, h3⟩
  · obtain ⟨h4, h5⟩ := List.append_inj (List.append_cancel_left h1) (by rw [Fr.le_len, Fr.le_len])
    subst h5
    have hC : A = [] ∧ C = [] := by
      have := congrArg List.length h2
      simp only [List.length_append, List.length_cons, List.length_nil] at this
      exact ⟨List.eq_nil_of_length_eq_zero (by omega), List.eq_nil_of_length_eq_zero (by omega)⟩
    obtain ⟨rfl, rfl⟩ := hC
    simp only [List.nil_append, List.cons.injEq, and_true] at h2 h3
    subst h2; subst h3
    exact Crc.sum_ne [] d _ _ hxy (le_inj (Fr.rsum_lt _ _) (Fr.rsum_lt _ _) h4)
  · simp only [List.cons.injEq, and_true] at h1
    subst h1
    rcases split_one rfl h2 h3 with ⟨_, C, h4, h5⟩ | ⟨_, A2, h4, h5⟩
    · rw [h4] at h5
      have := List.append_cancel_left h5
      simp only [List.cons.injEq, and_true] at this
      exact hxy this
    · rcases split_one (by rw [Fr.le_len, Fr.le_len]) h4 h5 with ⟨h6, C, h7, h8⟩ | ⟨h6, A3, h7, h8⟩
      · subst h6
        rw [h7] at h8
        have := List.append_cancel_left h8
        simp only [List.cons.injEq, and_true] at this
        exact hxy this
      · subst h7; subst h8
        exact Crc.sum_ne (k :: A3) B x y hxy (le_inj (Fr.rsum_lt _ _) (Fr.rsum_lt _ _) h6)
/-- .. so a record's bytes, one of them another one, open as none. -/
theorem opn_bent {k j : UInt8} {d A B : List UInt8} {x y : UInt8} (hxy : x ≠ y) (h : Fr.rec k d = A ++ x :: B) : (opn (A ++ y :: B) j).2 ≠ 0 := by
  intro h0
  exact rec_bent hxy h (opn_ok h0).1
end Go.Proofs.Ytkialkjhjenkhaa.Mt

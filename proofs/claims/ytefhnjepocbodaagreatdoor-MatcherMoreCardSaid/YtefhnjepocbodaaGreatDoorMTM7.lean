/- Layer 13: do all fit a set of labels? Layer 13 in plain words: which series of an index are asked for. -/
import Derived.Test.YtefhnjepocbodaaGreatDoorMTM6
import Derived.Test.YtefhnjepocbodaaGreatDoorMIY1
import Derived.Deep.RegionHeld3
import Derived.Deep.Cut
import Derived.Test.YtefhnjepocbodaaGreatDoorMIYC
namespace Go.Proofs.YtefhnjepocbodaaGreatDoor
open Go.RowKit Go.Lib
set_option linter.unusedVariables false

/-- Matchers that are read. -/
structure MsR (W : World) (v : Value) (l : List (Mr × Value)) : Prop where
  r : Rd W 3 v l.length (mcs l)
  vs : ∀ p ∈ l, Rd W 1 p.2 p.1.vs.length (txs p.1.vs) ∧ p.1.vs.length ≤ 1000000 ∧ p.1.k ≤ 4
theorem MsR.on {W W' : World} {v : Value} {l : List (Mr × Value)} (h : MsR W v l) (b : Below W.heap.size W W') : MsR W' v l := ⟨h.r.on b, fun p hp => ⟨(h.vs p hp).1.on b, (h.vs p hp).2⟩⟩
theorem MsO.rd {W : World} {B : Nat} {v : Value} {l : List (Mr × Value)} (h : MsO W B v l) (hb : ∀ p ∈ l, p.1.vs.length ≤ 1000000 ∧ p.1.k ≤ 4) : MsR W v l := ⟨Rd.of_sl h.1, fun p hp => ⟨Rd.of_sl (h.2 p hp).1, hb p hp⟩⟩
def matchB (ds : List Pr) (ms : List Mr) : Bool := ms.all fun m => fitB m (getP m.n ds)
theorem mcs_at (l : List (Mr × Value)) (i : Nat) (p : Mr × Value) (h : l[i]? = some p) : (mcs l)[i * 3]? = some (.int .i64 p.1.k) ∧ (mcs l)[i * 3 + 1]? = some (.string (bs p.1.n)) ∧ (mcs l)[i * 3 + 2]? = some p.2 := by
  induction l generalizing i with
  | nil => cases h
  | cons a l ih =>
    cases i with
    | zero =>
      obtain rfl : a = p := by simpa using h
      exact ⟨rfl, rfl, rfl⟩
    | succ i =>
      have := ih i (by simpa using h)
      have e : mcs (a :: l) = .int .i64 a.1.k :: .string (bs a.1.n) :: a.2 :: mcs l := rfl
      rw [e, show (i + 1) * 3 = i * 3 + 3 by omega]
      exact this

set_option maxHeartbeats 2000000 in
set_option maxRecDepth 100000 in
theorem match13_any (v u : Value) (ds : List Pr) (l : List (Mr × Value)) (w : World) (h : Rd w 2 v ds.length (prc ds)) (hd : ds.length ≤ 1000000) (hm : MsR w u l) (hl : l.length ≤ 1000000) :
    Calls Tryz.prog 21 #[v, u] w fun e w' => e = .returned (.bool (matchB ds (l.map (·.1)))) ∧ Below w.heap.size w w' := by
  have HM := Lib.hid hm
  have GT := Lib.hid (fun q W (b : Below w.heap.size w W) => get_lb v ds q W (h.on b) hd)
  have FT := Lib.hid (fun p x W (b : Below w.heap.size w W) (hp : p ∈ l) => fits13_any p.1 p.2 x W ((hm.on b).vs p hp).1 (hm.vs p hp).2.1 (hm.vs p hp).2.2)
  obtain ⟨_, a, cap, g, off, rfl, hg, hc⟩ := hm.r
  obtain ⟨_, a2, cap2, g2, off2, rfl, -, -⟩ := h
  obtain ⟨n2, hn2⟩ : ∃ n2, n2 = ds.length := ⟨_, rfl⟩
  rw [← hn2] at GT ⊢
  obtain ⟨n, hn⟩ : ∃ n, n = l.length := ⟨_, rfl⟩
  rw [← hn] at hg hc hl ⊢
  have HN := Lib.hid hn
  have HG := Lib.hid hg
  have HC := Lib.hid hc
  clear hn hg hc hm hn2
  go_enter Tryz.func21, Tryz.ntmps21
  go_wp2_with fail
  go_loopw [9] (fun i' wr => ∃ i : Nat, i' = .int .i64 i ∧ i ≤ n ∧ Hid (matchB ds (l.map (·.1)) = matchB ds ((l.drop i).map (·.1)) ∧ Below w.heap.size w wr)) (fun i' _ => n - (intOf i').toNat)
  case atStart => exact ⟨0, rfl, by omega, Lib.hid ⟨rfl, Below.refl _ _⟩⟩
  case round =>
    obtain ⟨W0, rfl⟩ : ∃ W0, W0 = wr := ⟨_, rfl⟩
    obtain ⟨i, rfl, hi, hk⟩ := hrel
    obtain ⟨he, hb⟩ := hk.out
    by_cases hlt : i < n
    · obtain ⟨rfl, hgl⟩ := HG.out (by omega)
      have hll : i < l.length := by have := HN.out; omega
      have hdr : l.drop i = l[i] :: l.drop (i + 1) := List.drop_eq_getElem_cons hll
      have hx0 : l[i]? = some l[i] := List.getElem?_eq_getElem hll
      have hpm : l[i] ∈ l := List.getElem_mem hll
      obtain ⟨p, hp⟩ : ∃ p, l[i] = p := ⟨_, rfl⟩
      rw [hp] at hdr hx0 hpm
      obtain ⟨m0, m1, m2⟩ := mcs_at l i p hx0
      have hz : ∀ j, j < n * 3 → W0.cell? ⟨g, off + j, none⟩ = (mcs l)[j]? := fun j hj => (hb.cell (p := ⟨g, off + j, none⟩) hgl).trans (HC.out j hj)
      have q0 := (hz (i * 3) (by omega)).trans m0
      have q1 := (hz (i * 3 + 1) (by omega)).trans m1
      have q2 := (hz (i * 3 + 2) (by omega)).trans m2
      rw [← Nat.add_assoc] at q1 q2
      obtain ⟨rp, hp1, hp2⟩ := HM.out.vs p hpm
      obtain ⟨_, a3, cap3, g3, off3, hv3, -, -⟩ := rp
      rw [hv3] at q2
      have hil : (i : Int) < n := by omega
      rw [hdr] at he
      unfold matchB at he
      rw [List.map_cons, List.all_cons] at he
      have FP := Lib.hid (fun x W b => FT.out p x W b hpm)
      unfold mrV at FP
      rw [hv3] at FP
      obtain ⟨x, hx⟩ : ∃ x, getP p.1.n ds = x := ⟨_, rfl⟩
      rw [hx] at he
      obtain ⟨ft, hft⟩ : ∃ ft, fitB p.1 x = ft := ⟨_, rfl⟩
      rw [hft] at he
      have HE := Lib.hid he
      have GP := Lib.hid (fun W b => GT.out p.1.n W b)
      rw [hx] at GP
      have FX := Lib.hid (fun W b => FP.out x W b)
      rw [hft] at FX
      obtain ⟨nm, hnm⟩ : ∃ nm, nm = p.1.n := ⟨_, rfl⟩
      obtain ⟨kk, hkk⟩ : ∃ kk : Nat, kk = p.1.k := ⟨_, rfl⟩
      obtain ⟨nv, hnv⟩ : ∃ nv : Nat, nv = p.1.vs.length := ⟨_, rfl⟩
      rw [← hnm] at q1 GP FX
      rw [← hkk] at q0 FX
      rw [← hnv] at q2 FX
      obtain ⟨W1, hW1⟩ : ∃ W1, W1 = W0.alloc (.cells #[.int .i64 kk, .string (bs nm), .slice a3 nv cap3] 59) := ⟨_, rfl⟩
      have hh := heap_alloc_new W0 (.cells #[.int .i64 kk, .string (bs nm), .slice a3 nv cap3] 59)
      rw [← hW1] at hh
      have d0 := Lib.cell_of_heap hh 0; have d1 := Lib.cell_of_heap hh 1; have d2 := Lib.cell_of_heap hh 2
      simp at d0 d1 d2
      have bW1 : Below w.heap.size w W1 := by rw [hW1]; exact hb.alloc hb.size _
      have z1 : W0.heap.size < W1.heap.size := by rw [hW1]; simp
      have G1 := Lib.hid (fun W (b : Below W1.heap.size W1 W) => GP.out W (bW1.trans (b.mono bW1.size)))
      have F1 := Lib.hid (fun W (b : Below W1.heap.size W1 W) => FX.out W (bW1.trans (b.mono bW1.size)))
      have B1 := Lib.hid bW1
      have BD := (Below.refl W1.heap.size W1).drew
      have HW1 := Lib.hid hW1
      clear he hk hb hdr hx0 hpm m0 m1 m2 hz hp1 hp2 hv3 FP hx hft GP FX hnm hkk hnv hW1 hh bW1 FT GT hp
      go_upto_region 4 with fail
      rw [← HW1.out]
      clear q0 q1 q2
      go_region_held3 (fun W => W.cell? ⟨W0.heap.size, 0, none⟩ = some (.int .i64 kk) ∧ W.cell? ⟨W0.heap.size, 1, none⟩ = some (.string (bs nm)) ∧ W.cell? ⟨W0.heap.size, 2, none⟩ = some (.slice a3 nv cap3)) (first | exact ⟨d0, d1, d2⟩ | exact kp | exact kq | assumption | fail)
        (first
          | (go_at_call 39; refine (G1.out _ BD).mono ?_; rintro e W2 ⟨rfl, b2⟩; have B2 := BD.trans (b2.mono (by exact Nat.le_refl _)); have kp := And.intro ((b2.cell (p := ⟨W0.heap.size, 0, none⟩) z1).trans d0) (And.intro ((b2.cell (p := ⟨W0.heap.size, 1, none⟩) z1).trans d1) ((b2.cell (p := ⟨W0.heap.size, 2, none⟩) z1).trans d2)))
          | (go_at_call 22; (first | refine (F1.out _ B2).mono ?_ | refine (F1.out _ B2.drew).mono ?_); rintro e W3 ⟨rfl, b3⟩; have B3 := B2.trans (b3.mono B2.size); have zz := Nat.lt_of_lt_of_le z1 B2.size; have kq := And.intro ((b3.cell (p := ⟨W0.heap.size, 0, none⟩) zz).trans kp.1) (And.intro ((b3.cell (p := ⟨W0.heap.size, 1, none⟩) zz).trans kp.2.1) ((b3.cell (p := ⟨W0.heap.size, 2, none⟩) zz).trans kp.2.2)))
          | fail)
      have BF := Lib.hid (B1.out.trans (B3.mono B1.out.size))
      cases ft with
      | false =>
        have HE2 := Lib.hid (show matchB ds (l.map (·.1)) = false from HE.out.trans (Bool.false_and _))
        clear HE
        go_wp2_with fail
        go_ret
        exact ⟨by rw [HE2.out]; rfl, BF.out⟩
      | true =>
        have HE2 := Lib.hid (show matchB ds (l.map (·.1)) = matchB ds ((l.drop (i + 1)).map (·.1)) from HE.out.trans (Bool.true_and _))
        clear HE
        go_wp2_with fail
        exact ⟨⟨i + 1, by go_num, by omega, Lib.hid ⟨HE2.out, BF.out⟩⟩, by simp [intOf]; omega⟩
    · have hil : ¬ (i : Int) < n := by omega
      have HK := Lib.hid (show matchB ds (l.map (·.1)) = true by
        rw [he, show i = l.length by have := HN.out; omega, List.drop_length]; rfl)
      have HB := Lib.hid hb
      clear hk he hb
      go_wp2_with fail
      go_ret
      exact ⟨by rw [HK.out]; rfl, HB.out⟩
end Go.Proofs.YtefhnjepocbodaaGreatDoor

namespace Go.Proofs.YtefhnjepocbodaaGreatDoor
open Go.RowKit Go.Lib
set_option linter.unusedVariables false

/-- The series of which a name says a value that is asked for. -/
def havN (T : List Sr) (x : List UInt8) (f : List UInt8 → Bool) : List Int := anyZ (((foldD (fV x) T).filter f).map fun y => foldD (fG x y) T)
/-- Those that a matcher fits. -/
def fitN (T : List Sr) (m : Mr) : List Int := if fitB m [] = true then pickZ (numsT T) (havN T m.n fun y => !fitB m y) false else havN T m.n (fitB m)
/-- Those that all fit: the program's, the document's. -/
def selN (T : List Sr) (ms : List Mr) : List Int := bothP (numsT T :: ms.map (fitN T))
def rselN (T : List Sr) (ms : List Mr) : List Int := T.foldl (fun a s => if matchB s.ps ms = true then putZ a s.n else a) []
theorem havN_up (T : List Sr) (x : List UInt8) (f : List UInt8 → Bool) : Up (havN T x f) := anyZ_up _
theorem havN_mem (T : List Sr) (x : List UInt8) (f : List UInt8 → Bool) (n : Int) : n ∈ havN T x f ↔ ∃ s ∈ T, s.n = n ∧ ∃ y, (⟨x, y⟩ : Pr) ∈ s.ps ∧ f y = true := by
  unfold havN
  rw [anyZ_mem]
  constructor
  · rintro ⟨l, hl, hn⟩
    obtain ⟨y, hy, rfl⟩ := List.mem_map.1 hl
    obtain ⟨h1, h2⟩ := List.mem_filter.1 hy
    obtain ⟨s, hs, e, hp⟩ := ((fG_spec x y T).2 n).1 hn
    exact ⟨s, hs, e, y, hp, h2⟩
  · rintro ⟨s, hs, e, y, hp, hf⟩
    exact ⟨_, List.mem_map.2 ⟨y, List.mem_filter.2 ⟨((fV_spec x T).2 y).2 ⟨s, hs, hp⟩, hf⟩, rfl⟩, ((fG_spec x y T).2 n).2 ⟨s, hs, e, hp⟩⟩
theorem getP_in : ∀ (ps : List Pr) (x y : List UInt8), (ps.map Pr.n).Nodup → (⟨x, y⟩ : Pr) ∈ ps → getP x ps = y
  | [], x, y, _, h => by cases h
  | p :: ps, x, y, hn, h => by
    unfold getP
    rw [List.map_cons, List.nodup_cons] at hn
    rcases List.mem_cons.1 h with rfl | h
    · rw [if_pos rfl]
    · rw [if_neg (fun e => hn.1 (by rw [e]; exact List.mem_map.2 ⟨_, h, rfl⟩))]
      exact getP_in ps x y hn.2 h
theorem getP_or : ∀ (ps : List Pr) (x : List UInt8), (⟨x, getP x ps⟩ : Pr) ∈ ps ∨ getP x ps = [] ∧ ∀ y, (⟨x, y⟩ : Pr) ∉ ps
  | [], x => Or.inr ⟨rfl, fun y h => by cases h⟩
  | p :: ps, x => by
    unfold getP
    by_cases e : p.n = x
    · rw [if_pos e, ← e]; exact Or.inl (List.mem_cons_self)
    · rw [if_neg e]
      rcases getP_or ps x with h | ⟨h1, h2⟩
      · exact Or.inl (List.mem_cons_of_mem _ h)
      · refine Or.inr ⟨h1, fun y h => ?_⟩
        rcases List.mem_cons.1 h with rfl | h
        · exact e rfl
        · exact h2 y h
/-- Series of numbers of their own, labels of names of their own. -/
def OwnT (T : List Sr) : Prop := (T.map Sr.n).Nodup ∧ ∀ s ∈ T, (s.ps.map Pr.n).Nodup
theorem nums_one : ∀ (T : List Sr), (T.map Sr.n).Nodup → ∀ s ∈ T, ∀ t ∈ T, s.n = t.n → s = t
  | [], _, s, hs, _, _, _ => by cases hs
  | a :: T, h, s, hs, t, ht, e => by
    rw [List.map_cons, List.nodup_cons] at h
    rcases List.mem_cons.1 hs with h1 | h1 <;> rcases List.mem_cons.1 ht with h2 | h2
    · rw [h1, h2]
    · exact absurd (by rw [← h1, e]; exact List.mem_map_of_mem h2) h.1
    · exact absurd (by rw [← h2, ← e]; exact List.mem_map_of_mem h1) h.1
    · exact nums_one T h.2 s h1 t h2 e
theorem hav_one {T : List Sr} (h : OwnT T) {s : Sr} (hs : s ∈ T) (x : List UInt8) (f : List UInt8 → Bool) : s.n ∈ havN T x f ↔ (⟨x, getP x s.ps⟩ : Pr) ∈ s.ps ∧ f (getP x s.ps) = true := by
  rw [havN_mem]
  constructor
  · rintro ⟨t, ht, e, y, hp, hf⟩
    obtain rfl := nums_one T h.1 t ht s hs e
    have := getP_in _ x y (h.2 t ht) hp
    rw [this]; exact ⟨hp, hf⟩
  · rintro ⟨h1, h2⟩
    exact ⟨s, hs, rfl, _, h1, h2⟩
theorem fit_one {T : List Sr} (h : OwnT T) {s : Sr} (hs : s ∈ T) (m : Mr) : s.n ∈ fitN T m ↔ fitB m (getP m.n s.ps) = true := by
  unfold fitN
  split
  · rename_i he
    rw [pickZ_mem, decide_eq_false_iff_not, hav_one h hs]
    have hn : s.n ∈ numsT T := ((numsT_spec T).2 _).2 ⟨s, hs, rfl⟩
    rcases getP_or s.ps m.n with h1 | ⟨h1, h2⟩
    · simp [hn, h1]
    · rw [h1, he]
      refine ⟨fun _ => rfl, fun _ => ⟨hn, fun h3 => h2 _ h3.1⟩⟩
  · rename_i he
    rw [hav_one h hs]
    rcases getP_or s.ps m.n with h1 | ⟨h1, h2⟩
    · simp [h1]
    · rw [h1]
      exact ⟨fun h3 => h3.2, fun h3 => absurd h3 he⟩
theorem fit_up (T : List Sr) (m : Mr) : Up (fitN T m) := by
  unfold fitN
  split
  · exact pickZ_up _ _ (numsT_spec T).1
  · exact havN_up _ _ _
theorem sel_up (T : List Sr) (ms : List Mr) : Up (selN T ms) := (bothP_go (ms.map (fitN T)) (numsT T) (numsT_spec T).1).1
theorem sel_mem (T : List Sr) (ms : List Mr) (n : Int) : n ∈ selN T ms ↔ n ∈ numsT T ∧ ∀ m ∈ ms, n ∈ fitN T m := by
  refine ((bothP_go (ms.map (fitN T)) (numsT T) (numsT_spec T).1).2 n).trans ?_
  simp
theorem rsel_spec (T : List Sr) (ms : List Mr) : Up (rselN T ms) ∧ ∀ n, n ∈ rselN T ms ↔ ∃ s ∈ T, s.n = n ∧ matchB s.ps ms = true := by
  have go : ∀ (T : List Sr) (a : List Int), Up a → Up (T.foldl (fun a s => if matchB s.ps ms = true then putZ a s.n else a) a) ∧ ∀ n, n ∈ T.foldl (fun a s => if matchB s.ps ms = true then putZ a s.n else a) a ↔ n ∈ a ∨ ∃ s ∈ T, s.n = n ∧ matchB s.ps ms = true := by
    intro T
    induction T with
    | nil => exact fun a h => ⟨h, fun n => by simp⟩
    | cons s T ih =>
      intro a h
      rw [List.foldl_cons]
      by_cases hm : matchB s.ps ms = true
      · rw [if_pos hm]
        obtain ⟨i2, m2⟩ := ih _ (putZ_up a s.n h)
        refine ⟨i2, fun n => ?_⟩
        rw [m2, putZ_mem]
        simp only [List.mem_cons, exists_eq_or_imp]
        constructor
        · rintro ((h | h) | h)
          · exact .inr (.inl ⟨h.symm, hm⟩)
          · exact .inl h
          · exact .inr (.inr h)
        · rintro (h | ⟨h, _⟩ | h)
          · exact .inl (.inr h)
          · exact .inl (.inl h.symm)
          · exact .inr h
      · rw [if_neg hm]
        obtain ⟨i2, m2⟩ := ih a h
        refine ⟨i2, fun n => ?_⟩
        rw [m2]
        simp only [List.mem_cons, exists_eq_or_imp]
        constructor
        · rintro (h | h)
          · exact .inl h
          · exact .inr (.inr h)
        · rintro (h | ⟨_, h⟩ | h)
          · exact .inl h
          · exact absurd h hm
          · exact .inr h
  obtain ⟨i1, m1⟩ := go T [] up_nil
  exact ⟨i1, fun n => by have := m1 n; simp only [List.not_mem_nil, false_or] at this; exact this⟩
/-- SELECT IS MATCH. -/
theorem sel_same {T : List Sr} (h : OwnT T) (ms : List Mr) : selN T ms = rselN T ms := by
  obtain ⟨h1, h2⟩ := rsel_spec T ms
  refine up_unique _ _ (sel_up T ms) h1 fun n => ?_
  rw [sel_mem, h2, (numsT_spec T).2]
  constructor
  · rintro ⟨⟨s, hs, rfl⟩, hm⟩
    refine ⟨s, hs, rfl, ?_⟩
    unfold matchB
    rw [List.all_eq_true]
    exact fun m hmm => (fit_one h hs m).1 (hm m hmm)
  · rintro ⟨s, hs, rfl, hm⟩
    refine ⟨⟨s, hs, rfl⟩, fun m hmm => (fit_one h hs m).2 ?_⟩
    unfold matchB at hm
    rw [List.all_eq_true] at hm
    exact hm m hmm
theorem sel_more (T : List Sr) (m : Mr) (ms : List Mr) : (∀ n ∈ selN T (m :: ms), n ∈ selN T ms) ∧ (selN T (m :: ms)).length ≤ (selN T ms).length ∧ (selN T ms).length ≤ T.length := by
  have h1 : ∀ n ∈ selN T (m :: ms), n ∈ selN T ms := fun n hn => by
    rw [sel_mem] at hn ⊢
    exact ⟨hn.1, fun k hk => hn.2 k (List.mem_cons_of_mem _ hk)⟩
  have nd : ∀ {l : List Int}, Up l → l.Nodup := fun h => h.imp (fun h => Int.ne_of_lt h)
  refine ⟨h1, (nd (sel_up T _)).length_le_of_subset h1, Nat.le_trans (accZ_len _ _) (numsT_len T)⟩
theorem hav_len (T : List Sr) (x : List UInt8) (f : List UInt8 → Bool) : (havN T x f).length ≤ T.length := by
  have nd : ∀ {l : List Int}, Up l → l.Nodup := fun h => h.imp (fun h => Int.ne_of_lt h)
  refine Nat.le_trans ((nd (havN_up T x f)).length_le_of_subset (l₂ := numsT T) fun n hn => ?_) (numsT_len T)
  obtain ⟨s, hs, e, _⟩ := (havN_mem T x f n).1 hn
  exact ((numsT_spec T).2 n).2 ⟨s, hs, e⟩
theorem fit_len (T : List Sr) (m : Mr) : (fitN T m).length ≤ T.length := by
  unfold fitN
  split
  · exact Nat.le_trans (List.length_filter_le _ _) (numsT_len T)
  · exact hav_len T _ _
theorem fG_few (T : List Sr) (x y : List UInt8) : (foldD (fG x y) T).length ≤ T.length := by
  have nd : ∀ {l : List Int}, Up l → l.Nodup := fun h => h.imp (fun h => Int.ne_of_lt h)
  refine Nat.le_trans ((nd (fG_spec x y T).1).length_le_of_subset (l₂ := numsT T) fun n hn => ?_) (numsT_len T)
  obtain ⟨s, hs, e, _⟩ := ((fG_spec x y T).2 n).1 hn
  exact ((numsT_spec T).2 n).2 ⟨s, hs, e⟩
end Go.Proofs.YtefhnjepocbodaaGreatDoor

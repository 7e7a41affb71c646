/- Layer 6: pairs sorted where they lie. Layer 6: which labels may be. -/
import Derived.Test.YtfckgcckpfklaaaGreatDoorMCmp
import Derived.Test.YtfckgcckpfklaaaGreatDoorMA1
namespace Go.Proofs.YtfckgcckpfklaaaGreatDoor
open Go.RowKit

theorem perm_of_in {α : Type} [Inhabited α] {d d' : Array α} (h : Sort.PermIn 0 d.size d d') : d'.toList.Perm d.toList := by
  obtain ⟨h1, _, h3⟩ := h
  have e1 : d'.extract 0 d.size = d' := by rw [← h1]; exact Array.extract_size
  have e2 : d.extract 0 d.size = d := Array.extract_size
  rw [e1, e2] at h3
  exact h3

/-- One pair ahead of another. -/
def ltP (x y : Pr) : Prop := x.n < y.n ∨ x.n = y.n ∧ x.v < y.v
theorem cfP_lt (x y : Pr) : cfP x y < 0 ↔ ltP x y := by
  unfold cfP ltP
  split
  · rename_i h
    rw [cmp_lt, (cmp_eq _ _).1 h]
    constructor
    · exact fun h => .inr ⟨rfl, h⟩
    · rintro (h | h)
      · exact absurd h (bytes_lt_irrefl _)
      · exact h.2
  · rename_i h
    rw [cmp_lt]
    constructor
    · exact fun h => .inl h
    · rintro (k | ⟨k, _⟩)
      · exact k
      · exact absurd ((cmp_eq _ _).2 k) h
theorem ltP_irrefl (x : Pr) : ¬ ltP x x := by
  rintro (h | h)
  · exact bytes_lt_irrefl _ h
  · exact bytes_lt_irrefl _ h.2
theorem ltP_trans {x y z : Pr} (h : ltP x y) (k : ltP y z) : ltP x z := by
  rcases h with h | ⟨e, h⟩
  · rcases k with k | ⟨e', k⟩
    · exact .inl (bytes_lt_trans h k)
    · exact .inl (by rw [← e']; exact h)
  · rcases k with k | ⟨e', k⟩
    · exact .inl (by rw [e]; exact k)
    · exact .inr ⟨e.trans e', bytes_lt_trans h k⟩
theorem ltP_tri (x y : Pr) : ltP x y ∨ x = y ∨ ltP y x := by
  rcases bytes_tri x.n y.n with h | h | h
  · exact .inl (.inl h)
  · rcases bytes_tri x.v y.v with k | k | k
    · exact .inl (.inr ⟨h, k⟩)
    · refine .inr (.inl ?_)
      cases x; cases y; simp at h k; rw [h, k]
    · exact .inr (.inr (.inr ⟨h.symm, k⟩))
  · exact .inr (.inr (.inl h))
theorem swoP : Sort.SWO (ltOf cfP) where
  irrefl x := by
    unfold ltOf
    rw [decide_eq_false_iff_not, cfP_lt]
    exact ltP_irrefl _
  trans x y z h k := by
    unfold ltOf at *
    rw [decide_eq_true_iff, cfP_lt] at *
    exact ltP_trans h k
  ntrans x y z h k := by
    unfold ltOf at *
    rw [decide_eq_false_iff_not, cfP_lt] at *
    intro hz
    rcases ltP_tri x y with e | e | e
    · exact h e
    · subst e; exact k hz
    · exact k (ltP_trans e hz)

set_option maxHeartbeats 1000000 in
theorem cmpPl (blk off size : Nat) (w : World) : CmpLays Tryz.prog 74 #[] encP 2 cfP blk off size w :=
  fun _ _ _ _ x y => cmpp_any x y _

theorem insn_any (p : Option Addr) (cap : Nat) (fv : Value) (w : World) :
    Calls Tryz.prog 116 #[.slice p 0 cap, .int .i64 0, .int .i64 0, fv] w fun e w' => e = .returned (.tuple #[]) ∧ w' = w := by
  go_enter Tryz.func116, Tryz.ntmps116
  go_wp2
  refine wp_loop_rounds 1 ?_
  rw [rounds_succ]
  go_wp2
  go_end0
  exact ⟨rfl, rfl⟩
theorem pdqn_any (p : Option Addr) (cap : Nat) (lim : Int) (fv : Value) (w : World) :
    Calls Tryz.prog 104 #[.slice p 0 cap, .int .i64 0, .int .i64 0, .int .i64 lim, fv] w fun e w' => e = .returned (.tuple #[]) ∧ w' = w := by
  have hi := Lib.hid (fun W => insn_any p cap fv W)
  go_enter Tryz.func104, Tryz.ntmps104
  go_wp2
  refine wp_loop_rounds 1 ?_
  rw [rounds_succ]
  go_wp2_with fail
  refine (hi.out _).mono ?_
  rintro e w' ⟨rfl, rfl⟩
  go_wp2
  (try simp only [Exit.inBlock, Exit.then])
  refine bodyPost_ret (results_none rfl _ _ _) rfl ?_
  exact ⟨rfl, rfl⟩

set_option maxHeartbeats 2000000 in
set_option maxRecDepth 100000 in
theorem sort_pr (v : Value) (ds : List Pr) (base : Nat) (w : World) (hs : Sl w base 2 v ds.length (prc ds)) (hlen : ds.length ≤ 1000000) :
    Calls Tryz.prog 88 #[v, .func (.func 74) #[] #[]] w fun e w' => e = .returned (.tuple #[]) ∧
      ∃ ds' : List Pr, ds'.Perm ds ∧ ds'.Pairwise (fun x y => ¬ ltP y x) ∧ Sl w' base 2 v ds.length (prc ds') ∧ Turn (fun k => v.ownBlock = some k) w w' := by
  rcases hs.2 with ⟨rfl, h0⟩ | ⟨g, off, cap, rfl, hb, hg, hnc, hcm, hfree, hcell⟩
  · have hnil : ds = [] := List.eq_nil_of_length_eq_zero h0
    subst hnil
    have HS := Lib.hid hs
    have HP := Lib.hid (fun lim W => pdqn_any none 0 lim (.func (.func 74) #[] #[]) W)
    have HL := Lib.hid (fun W => len_any 0 W (by omega))
    clear hs h0
    go_enter Tryz.func88, Tryz.ntmps88
    go_wp2_with fail
    refine (HL.out _).mono ?_
    rintro e w1 ⟨rfl, rfl⟩
    go_wp2_with fail
    refine (HP.out _ _).mono ?_
    rintro e w1 ⟨rfl, rfl⟩
    go_wp2
    go_end0
    exact ⟨rfl, [], List.Perm.refl _, List.Pairwise.nil, HS.out, Turn.refl _ _⟩
  · have hH : Sort.HoldsK encP 2 w g off ds.toArray := by
      intro t ht
      have ht' : t < ds.length * 2 := by simpa using ht
      have hc3 : ds.length * 2 ≤ cap * 2 := Nat.mul_le_mul_right _ hnc
      refine ⟨?_, (hfree t (by omega)).2⟩
      rw [hcell t ht', prc_get ds t ht', Sort.get_flatK _ _ _ _ (by simpa using ht)]
      rfl
    have eg : ∀ args w, (callFunc 74 args).run Tryz.prog w = .ok (.enter 74 args) w := enters_of Tryz.func74 (by kernel_rfl) rfl
    have hp := AnyQ.pdqsortCmpFunc_all sortPair 2 Tryz.isAgg74 Tryz.sizeOf74 encP cfP 74 #[] swoP g off cap ds.toArray w eg (cmpPl g off _ w) ⟨fun _ => rfl, fun x v hv => by simp [encP] at hv; rcases hv with rfl | rfl <;> rfl, hH, hg⟩ (ds.length + 1) 0 ds.length (Lib.bitLen ds.length) ds.toArray w (by omega) rfl (SWK.start hH) (Nat.zero_le _) (by simp) (by simp; omega) (Nat.lt_of_le_of_lt (Lib.bitLen_le ds.length 62 (by omega) (by omega)) (by omega)) (Or.inl rfl)
    have hpd := Sort.pdq_sorts (ltOf cfP) swoP ds.toArray 0 ds.length (Lib.bitLen ds.length) true true (Nat.zero_le _) (by simp) (Or.inl rfl)
    obtain ⟨d', hd'⟩ : ∃ d', d' = Sort.pdq (ltOf cfP) ds.toArray 0 ds.length (Lib.bitLen ds.length) true true := ⟨_, rfl⟩
    rw [← hd'] at hp hpd
    clear hd'
    rw [List.size_toArray] at hp
    have HP := Lib.hid (show Calls Tryz.prog 104 #[.slice (some ⟨g, off, none⟩) ds.length cap, .int .i64 0, .int .i64 ds.length, .int .i64 (Lib.bitLen ds.length), .func (.func 74) #[] #[]] w (fun e w' => e = .returned (.tuple #[]) ∧ SWK encP 2 w g off d' w') from hp)
    have HL := Lib.hid (fun W => len_any ds.length W (by omega))
    have HD := Lib.hid hpd
    have wr : IntKind.u64.wrap (ds.length : Int) = ds.length := by simp [IntKind.wrap, IntKind.bits, IntKind.signed]; omega
    have HH := Lib.hid hH
    have HF := Lib.hid hfree
    have HC := Lib.hid hcell
    clear hp hpd hH hfree hcell hs eg
    go_enter Tryz.func88, Tryz.ntmps88
    go_wp2_with fail
    refine (HL.out _).mono ?_
    rintro e w1 ⟨rfl, rfl⟩
    go_wp2_with fail
    refine HP.out.mono ?_
    rintro e w1 ⟨rfl, hw⟩
    go_wp2
    go_end0
    have hpd := HD.out; have hH := HH.out; have hfree := HF.out; have hcell := HC.out
    obtain ⟨n, os, rfl⟩ := hw
    obtain ⟨hp, hso⟩ := hpd
    have hds : d'.size = ds.length := by have := hp.1; simpa using this
    have hg' : g < (Sort.putRow id (Sort.ahead w n) g off (Sort.flatK encP 2 d')).heap.size := by simpa using hg
    have hcells : ∀ t, t < ds.length * 2 → (sortWorldK encP 2 w g off n d' os).cell? ⟨g, off + t, none⟩ = some ((encP (d'[t / 2]!))[t % 2]!) := fun t ht => by
      unfold sortWorldK Sort.putRowK
      rw [Sort.cell?_grow _ _ _ hg']
      have := Sort.cell?_putRow id (Sort.ahead w n) g off (Sort.flatK encP 2 ds.toArray) (Sort.flatK encP 2 d') hH (by simp [hds]) t (by simp; omega)
      rw [this, Sort.get_flatK _ _ _ _ (by rw [hds]; exact ht)]
      rfl
    refine ⟨rfl, d'.toList, perm_of_in (by simpa using hp), ?_, ⟨by rw [prc_length]; simp [hds], .inr ⟨g, off, cap, rfl, hb, by unfold sortWorldK Sort.putRowK; simp; omega, hnc, hcm, fun j hj => ⟨?_, ?_⟩, fun j hj => ?_⟩⟩, rfl, rfl, rfl, by unfold sortWorldK Sort.putRowK; simp, fun k hk hne => ?_⟩
    · rw [List.pairwise_iff_getElem]
      intro i j hi hj hij
      have h := hso i j (Nat.zero_le _) hij (by simp [hds] at hj ⊢; exact hj)
      unfold ltOf at h
      rw [decide_eq_false_iff_not, cfP_lt] at h
      have e1 : d'[i]! = d'.toList[i] := by simp [hds] at hi; simp [hds, hi]
      have e2 : d'[j]! = d'.toList[j] := by simp [hds] at hj; simp [hds, hj]
      rw [e1, e2] at h
      exact h
    · by_cases hjt : j < ds.length * 2
      · rw [hcells j hjt]; rfl
      · unfold sortWorldK Sort.putRowK
        rw [Sort.cell?_grow _ _ _ hg', Sort.cell?_putRow_other _ _ _ _ _ _ (.inr (.inr (by simp; omega)))]
        exact (hfree j hj).1
    · unfold sortWorldK Sort.putRowK
      rw [Sort.frozen?_grow _ _ _ hg', Sort.frozen?_putRow]
      exact (hfree j hj).2
    · rw [hcells j hj, prc_get d'.toList j (by simpa [hds] using hj)]
    · unfold sortWorldK Sort.putRowK
      rw [Sort.heap_grow_old _ _ (by simpa using hk)]
      have hgk : g ≠ k := fun e => hne (by rw [e]; rfl)
      simp [Sort.putRow, Sort.mapBlock, Sort.ahead, Array.getElem?_modify, hgk]
end Go.Proofs.YtfckgcckpfklaaaGreatDoor

namespace Go.Proofs.YtfckgcckpfklaaaGreatDoor
open Go.RowKit Go.Lib

def begB (c : UInt8) : Bool := c.toNat == 95 || (decide (97 ≤ c.toNat) && decide (c.toNat ≤ 122)) || (decide (65 ≤ c.toNat) && decide (c.toNat ≤ 90))
def digB (c : UInt8) : Bool := decide (48 ≤ c.toNat) && decide (c.toNat ≤ 57)
def nameB : List UInt8 → Bool
  | [] => false
  | c :: l => decide (l.length + 1 ≤ 40) && (begB c && l.all fun d => begB d || digB d)
def valB (v : List UInt8) : Bool := decide (1 ≤ v.length) && decide (v.length ≤ 40)
def chkR : Option (List UInt8) → List Pr → Bool
  | _, [] => true
  | o, p :: l => nameB p.n && (valB p.v && ((match o with | none => true | some q => decide (q < p.n)) && chkR (some p.n) l))
def aheadB : Option (List UInt8) → List UInt8 → Bool
  | none, _ => true
  | some q, n => decide (q < n)
theorem chkR_nil (o : Option (List UInt8)) : chkR o [] = true := by cases o <;> rfl
theorem chkR_cons (o : Option (List UInt8)) (p : Pr) (l : List Pr) : chkR o (p :: l) = (nameB p.n && (valB p.v && (aheadB o p.n && chkR (some p.n) l))) := by cases o <;> rfl
/-- May these pairs be a set? -/
def chk (l : List Pr) : Bool := decide (1 ≤ l.length) && (decide (l.length ≤ 8) && chkR none l)

set_option maxHeartbeats 1000000 in
theorem beg_any (c : UInt8) (w : World) : Calls Tryz.prog 126 #[.int .u8 c.toNat] w fun e w' => e = .returned (.bool (begB c)) ∧ w = w' := by
  unfold begB
  have hk := c.toNat_lt
  generalize c.toNat = k at hk ⊢
  have h : k = 95 ∨ (97 ≤ k ∧ k ≤ 122) ∨ (65 ≤ k ∧ k ≤ 90) ∨ k < 65 ∨ (90 < k ∧ k < 95) ∨ k = 96 ∨ 122 < k := by omega
  rcases h with h | h | h | h | h | h | h
  · subst h
    go_enter Tryz.func126, Tryz.ntmps126
    go_wp2
    go_ret
    exact ⟨rfl, rfl⟩
  · have e0 := Lib.hid (show (k == 95 || (decide (97 ≤ k) && decide (k ≤ 122)) || (decide (65 ≤ k) && decide (k ≤ 90))) = true by simp; omega)
    have e1 : ((k : Int) == 95) = false := by rw [beq_eq_false_iff_ne]; omega
    obtain ⟨h1, h2⟩ := h
    rw [e0.out]
    go_enter Tryz.func126, Tryz.ntmps126
    go_wp2
    go_ret
    exact ⟨rfl, rfl⟩
  · have e0 := Lib.hid (show (k == 95 || (decide (97 ≤ k) && decide (k ≤ 122)) || (decide (65 ≤ k) && decide (k ≤ 90))) = true by simp; omega)
    have e1 : ((k : Int) == 95) = false := by rw [beq_eq_false_iff_ne]; omega
    have e2 : decide ((97 : Int) ≤ k) = false := by simp; omega
    have e5 : decide ((k : Int) ≤ 90) = true := by simp; omega
    obtain ⟨h1, h2⟩ := h
    rw [e0.out]
    go_enter Tryz.func126, Tryz.ntmps126
    go_wp2
    go_ret
    exact ⟨rfl, rfl⟩
  · have e0 := Lib.hid (show (k == 95 || (decide (97 ≤ k) && decide (k ≤ 122)) || (decide (65 ≤ k) && decide (k ≤ 90))) = false by simp; omega)
    have e1 : ((k : Int) == 95) = false := by rw [beq_eq_false_iff_ne]; omega
    have e2 : decide ((97 : Int) ≤ k) = false := by simp; omega
    have e3 : decide ((65 : Int) ≤ k) = false := by simp; omega
    rw [e0.out]
    go_enter Tryz.func126, Tryz.ntmps126
    go_wp2
    go_ret
    exact ⟨rfl, rfl⟩
  · have e0 := Lib.hid (show (k == 95 || (decide (97 ≤ k) && decide (k ≤ 122)) || (decide (65 ≤ k) && decide (k ≤ 90))) = false by simp; omega)
    have e1 : ((k : Int) == 95) = false := by rw [beq_eq_false_iff_ne]; omega
    have e2 : decide ((97 : Int) ≤ k) = false := by simp; omega
    have e3 : decide ((65 : Int) ≤ k) = true := by simp; omega
    have e4 : decide ((k : Int) ≤ 90) = false := by simp; omega
    rw [e0.out]
    go_enter Tryz.func126, Tryz.ntmps126
    go_wp2
    go_ret
    exact ⟨rfl, rfl⟩
  · subst h
    go_enter Tryz.func126, Tryz.ntmps126
    go_wp2
    go_ret
    exact ⟨rfl, rfl⟩
  · have e0 := Lib.hid (show (k == 95 || (decide (97 ≤ k) && decide (k ≤ 122)) || (decide (65 ≤ k) && decide (k ≤ 90))) = false by simp; omega)
    have e1 : ((k : Int) == 95) = false := by rw [beq_eq_false_iff_ne]; omega
    have e2 : decide ((97 : Int) ≤ k) = true := by simp; omega
    have e3 : decide ((k : Int) ≤ 122) = false := by simp; omega
    have e4 : decide ((65 : Int) ≤ k) = true := by simp; omega
    have e5 : decide ((k : Int) ≤ 90) = false := by simp; omega
    rw [e0.out]
    go_enter Tryz.func126, Tryz.ntmps126
    go_wp2
    go_ret
    exact ⟨rfl, rfl⟩
theorem dig_any (c : UInt8) (w : World) : Calls Tryz.prog 127 #[.int .u8 c.toNat] w fun e w' => e = .returned (.bool (digB c)) ∧ w = w' := by
  unfold digB
  have hk := c.toNat_lt
  generalize c.toNat = k at hk ⊢
  by_cases h1 : 48 ≤ k
  · by_cases h2 : k ≤ 57
    · have e0 := Lib.hid (show (decide (48 ≤ k) && decide (k ≤ 57)) = true by simp; omega)
      have e1 : decide ((k : Int) ≤ 57) = true := by simp; omega
      rw [e0.out]
      go_enter Tryz.func127, Tryz.ntmps127
      go_wp2
      go_ret
      exact ⟨rfl, rfl⟩
    · have e0 := Lib.hid (show (decide (48 ≤ k) && decide (k ≤ 57)) = false by simp; omega)
      have e1 : decide ((k : Int) ≤ 57) = false := by simp; omega
      rw [e0.out]
      go_enter Tryz.func127, Tryz.ntmps127
      go_wp2
      go_ret
      exact ⟨rfl, rfl⟩
  · have e0 := Lib.hid (show (decide (48 ≤ k) && decide (k ≤ 57)) = false by simp; omega)
    have e1 : decide ((48 : Int) ≤ k) = false := by simp; omega
    rw [e0.out]
    go_enter Tryz.func127, Tryz.ntmps127
    go_wp2
    go_ret
    exact ⟨rfl, rfl⟩

/-- The rest of a name, from byte i on. -/
def nameR (l : List UInt8) (i : Nat) : Bool := match l.drop i with
  | [] => true
  | c :: r => if i = 0 then begB c && r.all fun d => begB d || digB d else (c :: r).all fun d => begB d || digB d
theorem nameR_step (l : List UInt8) (i : Nat) (c : UInt8) (h : l.drop i = c :: l.drop (i + 1)) : nameR l i = ((begB c || (decide (i ≠ 0) && digB c)) && nameR l (i + 1)) := by
  have hr : nameR l (i + 1) = (l.drop (i + 1)).all fun d => begB d || digB d := by
    unfold nameR
    cases hd : l.drop (i + 1) with
    | nil => rfl
    | cons d r =>
      show (if i + 1 = 0 then _ else (d :: r).all fun d => begB d || digB d) = _
      rw [if_neg (by omega)]
  rw [hr]
  unfold nameR
  rw [h]
  by_cases hi : i = 0
  · simp [hi]
  · simp [hi]
theorem nameB_R (l : List UInt8) (h1 : l ≠ []) (h2 : l.length ≤ 40) : nameB l = nameR l 0 := by
  cases l with
  | nil => exact absurd rfl h1
  | cons c l =>
    show (decide (l.length + 1 ≤ 40) && (begB c && l.all fun d => begB d || digB d)) = (if 0 = 0 then begB c && l.all fun d => begB d || digB d else (c :: l).all fun d => begB d || digB d)
    rw [decide_eq_true (by simpa using h2), if_pos rfl]
    rfl

set_option maxHeartbeats 2000000 in
set_option maxRecDepth 100000 in
theorem isname_any (l : List UInt8) (w : World) : Calls Tryz.prog 106 #[.string (bs l)] w fun e w' => e = .returned (.bool (nameB l)) ∧ w = w' := by
  have hT := bs_toList
  have hz : (bs l).size = l.length := bs_size l
  by_cases h0 : l = []
  · subst h0
    go_enter Tryz.func106, Tryz.ntmps106
    go_wp2
    go_ret
    exact ⟨rfl, rfl⟩
  · have hb0 : (!l.isEmpty) = true := by simpa using h0
    have hb1 : l.isEmpty = false := by simpa using h0
    by_cases h40 : l.length ≤ 40
    · have HB := Lib.hid (nameB_R l h0 h40)
      have h40' : decide ((40 : Int) < l.length) = false := by simp; omega
      rw [HB.out]
      have h0' := Lib.hid h0
      clear h0 HB
      go_enter Tryz.func106, Tryz.ntmps106
      go_wp2_with fail
      go_loopw [14] (fun i' wr => ∃ (i : Nat), i' = .int .i64 i ∧ i ≤ l.length ∧ Hid (nameR l 0 = nameR l i) ∧ w = wr) (fun i' _ => l.length - (intOf i').toNat)
      case atStart => exact ⟨0, rfl, by omega, rfl, rfl⟩
      case round =>
        obtain ⟨i, rfl, hi, hn, rfl⟩ := hrel
        by_cases hlt : i < l.length
        · have hat := list_at (bs l) i (by omega)
          rw [bs_list] at hat
          obtain ⟨c, hc⟩ : ∃ c, c = (bs l)[i]'(by omega) := ⟨_, rfl⟩
          rw [← hc] at hat
          have hst := nameR_step l i c hat
          have HG : ∀ h, (bs l)[i]'h = c := fun _ => hc.symm
          have hil : (i : Int) < l.length := by omega
          have HBeg := Lib.hid (fun W => beg_any c W)
          have HDig := Lib.hid (fun W => dig_any c W)
          generalize begB c = b1 at hst HBeg
          generalize digB c = b2 at hst HDig
          have HQ := Lib.hid (hn.out.trans hst)
          clear hst hat hc hn
          rcases b1 with _ | _
          · rcases b2 with _ | _
            · by_cases hi0 : i = 0
              · subst hi0
                go_wp2_with fail
                refine (HBeg.out _).mono ?_
                rintro e w1 ⟨rfl, rfl⟩
                go_wp2
                go_ret
                exact ⟨by rw [HQ.out]; rfl, rfl⟩
              · have hi1 : ((i : Int) == 0) = false := by rw [beq_eq_false_iff_ne]; omega
                go_wp2_with fail
                refine (HBeg.out _).mono ?_
                rintro e w1 ⟨rfl, rfl⟩
                go_wp2_with fail
                refine (HDig.out _).mono ?_
                rintro e w1 ⟨rfl, rfl⟩
                go_wp2
                go_ret
                exact ⟨by rw [HQ.out]; simp, rfl⟩
            · by_cases hi0 : i = 0
              · subst hi0
                go_wp2_with fail
                refine (HBeg.out _).mono ?_
                rintro e w1 ⟨rfl, rfl⟩
                go_wp2
                go_ret
                exact ⟨by rw [HQ.out]; rfl, rfl⟩
              · have hi1 : ((i : Int) == 0) = false := by rw [beq_eq_false_iff_ne]; omega
                have hq := HQ.out
                rw [decide_eq_true (show i ≠ 0 from hi0)] at hq
                have HQ2 := Lib.hid hq
                clear hq HQ
                go_wp2_with fail
                refine (HBeg.out _).mono ?_
                rintro e w1 ⟨rfl, rfl⟩
                go_wp2_with fail
                refine (HDig.out _).mono ?_
                rintro e w1 ⟨rfl, rfl⟩
                go_wp2
                exact ⟨⟨i + 1, by simp, by omega, by have := HQ2.out; show _ = _; simpa using this, trivial⟩, by simp [intOf]; omega⟩
          · go_wp2_with fail
            refine (HBeg.out _).mono ?_
            rintro e w1 ⟨rfl, rfl⟩
            go_wp2
            exact ⟨⟨i + 1, by simp, by omega, by have := HQ.out; show _ = _; simpa using this, trivial⟩, by simp [intOf]; omega⟩
        · have hil : ¬ (i : Int) < l.length := by omega
          have hd : l.drop i = [] := List.drop_eq_nil_of_le (by omega)
          have HQ := Lib.hid (hn.out.trans (show nameR l i = true by unfold nameR; rw [hd]))
          clear hn hd
          go_wp2
          go_ret
          exact ⟨by rw [HQ.out]; rfl, rfl⟩
    · have HB := Lib.hid (show nameB l = false by
        cases l with
        | nil => rfl
        | cons c l =>
          show (decide (l.length + 1 ≤ 40) && _) = false
          rw [decide_eq_false (by simpa using h40)]; rfl)
      have h40' : decide ((40 : Int) < l.length) = true := by simp; omega
      clear h0
      go_enter Tryz.func106, Tryz.ntmps106
      go_wp2
      go_ret
      exact ⟨by rw [HB.out]; rfl, rfl⟩
end Go.Proofs.YtfckgcckpfklaaaGreatDoor

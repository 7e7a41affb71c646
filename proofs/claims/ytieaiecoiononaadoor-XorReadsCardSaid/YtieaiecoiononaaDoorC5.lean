/- The document's answers for layer 3, walked: numbers, bits of a text, texts; widths. -/
import Derived.Test.YtieaiecoiononaaDoorC4
namespace Go.Proofs.YtieaiecoiononaaDoor
open Go.RowKit Go.Lib

theorem number_take (l : List Bool) (i : Nat) (h : i < l.length) : Bt.number (l.take (i + 1)) = 2 * Bt.number (l.take i) + Bt.b2n l[i] := by
  rw [List.take_succ_eq_append_getElem h, Bt.number_snoc]

set_option maxRecDepth 100000 in
theorem rnumber_any (base : Nat) (v : Value) (l : List Bool) (w : World) (hs : Sl w base 1 v l.length (bc l)) (hl : l.length ≤ 64) :
    Calls Tryd.prog 47 #[v] w fun e w' => e = .returned (.int .u64 (Bt.number l : Nat)) ∧ w = w' := by
  obtain ⟨a, cap, rfl⟩ := hs.slice
  obtain ⟨n, hn⟩ : ∃ n, n = l.length := ⟨_, rfl⟩
  have HN := Lib.hid hn
  rw [← hn] at hs hl ⊢
  clear hn
  go_enter Tryd.func47, Tryd.ntmps47
  go_wp2
  go_loopw [3, 5, 8] (fun v' _ i' wr => ∃ (i u : Nat), v' = .int .u64 u ∧ i' = .int .i64 i ∧ i ≤ n ∧ Hid (u = Bt.number (l.take i)) ∧ wr = w) (fun _ _ i' _ => n - (intOf i').toNat)
  case atStart => exact ⟨0, 0, rfl, rfl, by omega, rfl, rfl⟩
  case round =>
    obtain ⟨i, u, rfl, rfl, hi, hu, rfl⟩ := hrel
    by_cases hlt : i < n
    · have hil : i < l.length := by rw [← HN.out]; exact hlt
      have hu63 : u < 9223372036854775808 := by
        have := Bt.number_lt (l.take i)
        rw [← hu.out] at this
        exact Nat.lt_of_lt_of_le this (Nat.pow_le_pow_right (n := 2) (by decide) (show (l.take i).length ≤ 63 by rw [List.length_take]; omega))
      obtain ⟨g, off, rfl⟩ : ∃ g off, a = some ⟨g, off, none⟩ := by
        rcases hs.2 with ⟨h0, h1⟩ | ⟨g, off, cap', he, _⟩
        · omega
        · cases he; exact ⟨g, off, rfl⟩
      have hc := sl_bool hs i l[i] (List.getElem?_eq_getElem hil)
      have hnum := number_take l i hil
      rw [← hu.out] at hnum
      have HM := Lib.hid hnum
      clear hnum
      generalize l[i] = b at *
      cases b
      · go_wp2
        refine ⟨⟨i + 1, 2 * u, by go_num, by go_num, by omega, ?_, by trivial⟩, by simp [intOf]; omega⟩
        exact HM.out.symm
      · go_wp2
        refine ⟨⟨i + 1, 2 * u + 1, by go_num, by go_num, by omega, ?_, by trivial⟩, by simp [intOf]; omega⟩
        exact HM.out.symm
    · obtain rfl : i = n := by omega
      have hu2 : u = Bt.number l := by have := hu.out; rwa [List.take_of_length_le (by rw [HN.out]; exact Nat.le_refl _)] at this
      have HU := Lib.hid hu2
      clear hu2
      go_wp2
      go_ret
      exact ⟨by rw [← HU.out]; rfl, rfl⟩

theorem Bt.bitsN8 (c : UInt8) : Bt.bitsN c.toNat 8 = (List.range 8).map fun j => c.toNat / 2 ^ (7 - j) % 2 == 1 := rfl
theorem bitsOf_snoc (s : List UInt8) (c : UInt8) : Bt.bitsOf (s ++ [c]) = Bt.bitsOf s ++ Bt.bitsN c.toNat 8 := by
  rw [Bt.bitsN8]
  apply List.ext_getElem?
  intro i
  by_cases h : i < 8 * s.length
  · rw [List.getElem?_append_left (by rw [Bt.bitsOf_length]; exact h), Bt.bitsOf_get _ _ h, Bt.bitsOf_get _ _ (by rw [List.length_append]; omega)]
    unfold Bt.bitAt
    rw [List.getD_eq_getElem?_getD, List.getD_eq_getElem?_getD, List.getElem?_append_left (by omega)]
  · rw [List.getElem?_append_right (by rw [Bt.bitsOf_length]; omega), Bt.bitsOf_length]
    by_cases h2 : i < 8 * s.length + 8
    · rw [Bt.bitsOf_get _ _ (by rw [List.length_append, List.length_singleton]; omega), List.getElem?_map, List.getElem?_range (by omega), Option.map_some]
      unfold Bt.bitAt
      rw [List.getD_eq_getElem?_getD, List.getElem?_append_right (by omega), show i / 8 - s.length = 0 by omega, show i % 8 = i - 8 * s.length by omega]
      rfl
    · rw [List.getElem?_eq_none (by rw [Bt.bitsOf_length, List.length_append, List.length_singleton]; omega), List.getElem?_eq_none (by simp; omega)]

theorem bs_get (s : List UInt8) (i : Nat) (_h : i < (bs s).size) (h' : i < s.length) : (bs s)[i] = s[i] := rfl

set_option maxRecDepth 100000 in
theorem rof_any (s : List UInt8) (n : Int) (w : World) (hs : s.length ≤ 1000) (h0 : -9223372036854775808 ≤ n) (h1 : n ≤ 9223372036854775807) :
    Calls Tryd.prog 29 #[.string (bs s), .int .i64 n] w fun e w' => ∃ g off cap, e = .returned (.slice (some ⟨g, off, none⟩) ((Bt.bitsOf s).take (max n 0).toNat).length cap) ∧ Sl w' w.heap.size 1 (.slice (some ⟨g, off, none⟩) ((Bt.bitsOf s).take (max n 0).toNat).length cap) ((Bt.bitsOf s).take (max n 0).toNat).length (bc ((Bt.bitsOf s).take (max n 0).toNat)) ∧ Below w.heap.size w w' := by
  obtain ⟨i0, hi, hz0, hz1, hz2⟩ := info_parts bi_bool
  have Hz := Lib.hid hz0; have Hs := Lib.hid hz1; have Hb := Lib.hid hz2; have Hi := Lib.hid hi
  clear hz0 hz1 hz2 hi
  have hz := bs_size s
  have hget := bs_get s
  obtain ⟨S, hS⟩ : ∃ S, S = bs s := ⟨_, rfl⟩
  rw [← hS] at hz ⊢
  have hget' : ∀ (i : Nat) (h : i < S.size) (h' : i < s.length), S[i] = s[i] := by subst hS; exact hget
  have HG := Lib.hid hget'
  clear hS hget hget'
  have hz' : S.size ≤ 1000 := by omega
  go_enter Tryd.func29, Tryd.ntmps29
  go_wp2
  go_loopw [5, 6] (fun o' i' wr => ∃ (i g off cap : Nat), o' = .slice (some ⟨g, off, none⟩) (8 * i) cap ∧ i' = .int .i64 i ∧ i ≤ s.length ∧ Sl wr w.heap.size 1 (.slice (some ⟨g, off, none⟩) (8 * i) cap) (8 * i) (bc (Bt.bitsOf (s.take i))) ∧ Below w.heap.size w wr) (fun _ i' _ => s.length - (intOf i').toNat)
  case atStart => exact ⟨0, _, _, _, rfl, rfl, by omega, Sl.lit w w.heap.size 1 0 #[] _ (Nat.le_refl _) (by decide) rfl, (Below.refl _ _).alloc (Nat.le_refl _) _⟩
  case round =>
    obtain ⟨i, g, off, cap, rfl, rfl, hi, hsl, hbel⟩ := hrel
    have hsz := hbel.size
    by_cases hlt : i < s.length
    · have hlt' : i < S.size := by omega
      obtain ⟨c, hc⟩ : ∃ c, c = s[i] := ⟨_, rfl⟩
      have hS := HG.out i hlt' hlt
      rw [← hc] at hS
      have HC := Lib.hid hc
      have hcn := c.toNat_lt
      have hby : Bt.bitsOf (s.take (i + 1)) = Bt.bitsOf (s.take i) ++ Bt.bitsN c.toNat 8 := by rw [List.take_succ_eq_append_getElem hlt, bitsOf_snoc, ← hc]
      have HB := Lib.hid hby
      clear hc hby
      go_wp2_with (first
        | (go_at_call 36; refine (rb_b c.toNat 8 _ (by omega) (by decide)).mono ?_; rintro e w1 ⟨v1, rfl, s1, b1⟩; have hs1 := hsl.on b1; have z1 := b1.size)
        | (at_builtin; refine wpList_append_sl2 _ rfl _ _ 57 rfl w.heap.size 4 i0 (.bool false) 1 1 Tryd.underlying57 Hi.out Hz.out Hs.out Hb.out rfl (by decide) _ (8 * i) _ rfl hs1 wr.heap.size _ 8 _ rfl (by rw [Bt.bitsN_length] at s1; exact s1) (bc_one _) (by unfold maxLen; omega) (by omega) (by omega) ?_; intro v' w2 hx; have hnow := hx.now; obtain ⟨g2, off2, cap2, rfl, _, _, _⟩ := hnow.some (by omega)))
      refine ⟨⟨i + 1, _, _, _, rfl, by go_num, by omega, ?_, ?_⟩, by simp [intOf]; omega⟩
      · rw [HB.out, bc_append]
        exact hnow
      · exact (below_step hbel b1).trans (hx.below (Nat.le_refl _) (by omega))
    · obtain rfl : i = s.length := by omega
      rw [List.take_of_length_le (Nat.le_refl _)] at hsl
      have hL := Bt.bitsOf_length s
      have hcap : 8 * s.length ≤ cap := by
        rcases hsl.2 with ⟨h0, _⟩ | ⟨_, _, _, he, _, _, h1, _⟩
        · cases h0
        · cases he; exact h1
      rcases (by omega : n < 0 ∨ (0 ≤ n ∧ n < (8 * s.length : Nat)) ∨ ((8 * s.length : Nat) : Int) ≤ n) with h | h | h
      · have hf := hsl.part 0 0 cap (by omega) rfl
        have HF := Lib.hid hf
        have e : (max n 0).toNat = 0 := by omega
        clear hf
        go_wp2
        go_ret
        rw [e, List.take_zero]
        exact ⟨_, _, _, rfl, HF.out, hbel⟩
      · obtain ⟨m, rfl⟩ := Int.eq_ofNat_of_zero_le h.1
        have hm : m < 8 * s.length := by omega
        have hf := hsl.part 0 m cap (by omega) rfl
        have HF := Lib.hid hf
        have e : (max (m : Int) 0).toNat = m := by omega
        clear hf
        go_wp2
        go_ret
        have := HF.out
        rw [List.drop_zero] at this
        rw [e, List.length_take, hL, Nat.min_eq_left (by omega)]
        exact ⟨_, _, _, rfl, by simpa [bc] using this, hbel⟩
      · have e : (Bt.bitsOf s).take (max n 0).toNat = Bt.bitsOf s := List.take_of_length_le (by omega)
        go_wp2
        go_ret
        rw [e, hL]
        exact ⟨_, _, _, rfl, hsl, hbel⟩

/-- 'string([]byte{x})'. -/
theorem run_text_lit (W : World) (x : Int) (c : UInt8) (hx : x = (c.toNat : Int)) :
    (convert 47 9 (.slice (some ⟨W.heap.size, 0, none⟩) 1 1)).run Tryd.prog (W.alloc (.cells #[.int .u8 x] 5)) = .ok (.string (bs [c])) (W.alloc (.cells #[.int .u8 x] 5)) := by
  subst hx
  refine run_convert_bytes_back _ 47 9 5 ⟨W.heap.size, 0, none⟩ 1 [c] Tryd.underlying47 Tryd.underlying5 Tryd.underlying9 fun j hj => ?_
  have : j = 0 := by simp at hj; omega
  subst this
  exact cell_one_new _ _ _ 0 _ rfl

def part8 (l : List Bool) (k j : Nat) : Nat := Bt.number ((List.range j).map fun t => l.getD (8 * k + t) false)
theorem part8_succ (l : List Bool) (k j : Nat) : part8 l k (j + 1) = 2 * part8 l k j + Bt.b2n (l.getD (8 * k + j) false) := by
  unfold part8
  rw [List.range_succ, List.map_append, List.map_singleton, Bt.number_snoc]
theorem part8_eight (l : List Bool) (k : Nat) : part8 l k 8 = Bt.byteAt l k := by
  unfold Bt.byteAt Bt.oct
  dsimp only
  have h0 : part8 l k 0 = 0 := rfl
  have h1 : part8 l k 1 = 2 * part8 l k 0 + Bt.b2n (l.getD (8 * k + 0) false) := part8_succ l k 0
  have h2 : part8 l k 2 = 2 * part8 l k 1 + Bt.b2n (l.getD (8 * k + 1) false) := part8_succ l k 1
  have h3 : part8 l k 3 = 2 * part8 l k 2 + Bt.b2n (l.getD (8 * k + 2) false) := part8_succ l k 2
  have h4 : part8 l k 4 = 2 * part8 l k 3 + Bt.b2n (l.getD (8 * k + 3) false) := part8_succ l k 3
  have h5 : part8 l k 5 = 2 * part8 l k 4 + Bt.b2n (l.getD (8 * k + 4) false) := part8_succ l k 4
  have h6 : part8 l k 6 = 2 * part8 l k 5 + Bt.b2n (l.getD (8 * k + 5) false) := part8_succ l k 5
  have h7 : part8 l k 7 = 2 * part8 l k 6 + Bt.b2n (l.getD (8 * k + 6) false) := part8_succ l k 6
  have h8 : part8 l k 8 = 2 * part8 l k 7 + Bt.b2n (l.getD (8 * k + 7) false) := part8_succ l k 7
  omega
theorem part8_lt (l : List Bool) (k j : Nat) (h : j ≤ 8) : part8 l k j < 256 := by
  have := Bt.number_lt ((List.range j).map fun t => l.getD (8 * k + t) false)
  rw [List.length_map, List.length_range] at this
  exact Nat.lt_of_lt_of_le this (Nat.pow_le_pow_right (n := 2) (by decide) h)
def packN (l : List Bool) (k : Nat) : List UInt8 := (List.range k).map fun k => UInt8.ofNat (Bt.byteAt l k)

set_option maxRecDepth 100000 in
theorem rtext03_any (base : Nat) (v : Value) (l : List Bool) (w : World) (hs : Sl w base 1 v l.length (bc l)) (hl : l.length ≤ 100000) :
    Calls Tryd.prog 23 #[v] w fun e w' => e = .returned (.string (bs (Bt.pack l))) ∧ Below w.heap.size w w' := by
  obtain ⟨a, cap, rfl⟩ := hs.slice
  obtain ⟨n, hn⟩ : ∃ n, n = l.length := ⟨_, rfl⟩
  have HN := Lib.hid hn
  rw [← hn] at hs hl ⊢
  clear hn
  go_enter Tryd.func23, Tryd.ntmps23
  go_wp2
  go_loopw [3, 4, 5, 6] (fun s' i' _ _ wr => ∃ (k : Nat), s' = .string (bs (packN l k)) ∧ i' = .int .i64 ((8 * k : Nat) : Int) ∧ 8 * k ≤ n + 7 ∧ Below w.heap.size w wr) (fun _ i' _ _ _ => n + 8 - (intOf i').toNat)
  case atStart => exact ⟨0, rfl, rfl, by omega, Below.refl _ _⟩
  case round =>
    obtain ⟨k, rfl, rfl, hk, hbel⟩ := hrel
    have hsz := hbel.size
    by_cases hlt : 8 * k < n
    · obtain ⟨g, off, rfl⟩ : ∃ g off, a = some ⟨g, off, none⟩ := by
        rcases hs.2 with ⟨h0, h1⟩ | ⟨g, off, cap', he, _⟩
        · omega
        · cases he; exact ⟨g, off, rfl⟩
      have hs' := hs.on hbel
      obtain ⟨p, hp⟩ : ∃ p, p = 8 * k := ⟨_, rfl⟩
      rw [← hp] at hlt hk ⊢
      have HP := Lib.hid hp
      clear hp
      go_wp2
      go_loopw [5, 6] (fun c' t' wx => ∃ (j c : Nat), c' = .int .i64 c ∧ t' = .int .i64 ((p + j : Nat) : Int) ∧ j ≤ 8 ∧ c < 256 ∧ Hid (c = part8 l k j) ∧ wx = wr) (fun _ t' _ => p + 8 - (intOf t').toNat)
      case atStart => exact ⟨0, 0, rfl, rfl, by omega, by omega, rfl, rfl⟩
      case round =>
        obtain ⟨j, c, rfl, rfl, hj, hc, hcj, rfl⟩ := hrel
        by_cases hj8 : j < 8
        · have hps := part8_succ l k j
          have hpl := part8_lt l k (j + 1) (by omega)
          rw [← hcj.out] at hps
          rw [hps] at hpl
          have HS := Lib.hid hps
          clear hps
          by_cases hin : p + j < n
          · have hil : p + j < l.length := by rw [← HN.out]; exact hin
            have hc := sl_bool hs' (p + j) l[p + j] (List.getElem?_eq_getElem hil)
            have hgd : l.getD (8 * k + j) false = l[p + j] := by rw [← HP.out, List.getD_eq_getElem?_getD, List.getElem?_eq_getElem hil]; rfl
            rw [hgd] at HS hpl
            clear hgd
            generalize l[p + j] = b at *
            cases b
            · go_wp2
              refine ⟨⟨j + 1, 2 * c, by go_num, by go_num, by omega, by simp [Bt.b2n] at hpl; omega, HS.out.symm, by trivial⟩, by simp [intOf]; omega⟩
            · go_wp2
              refine ⟨⟨j + 1, 2 * c + 1, by go_num, by go_num, by omega, by simp [Bt.b2n] at hpl; omega, HS.out.symm, by trivial⟩, by simp [intOf]; omega⟩
          · have hgd : l.getD (8 * k + j) false = false := by
              have := HN.out
              rw [← HP.out, List.getD_eq_getElem?_getD, List.getElem?_eq_none (by omega)]; rfl
            rw [hgd] at HS hpl
            have hd : decide (((p + j : Nat) : Int) < (n : Int)) = false := by simp; omega
            clear hgd
            go_wp2
            refine ⟨⟨j + 1, 2 * c, by go_num, by go_num, by omega, by simp [Bt.b2n] at hpl; omega, HS.out.symm, by trivial⟩, by simp [intOf]; omega⟩
        · obtain rfl : j = 8 := by omega
          have hby := part8_eight l k
          rw [← hcj.out] at hby
          obtain ⟨b, hb⟩ : ∃ b, b = UInt8.ofNat c := ⟨_, rfl⟩
          have hcv := fun W : World => run_text_lit W (c : Int) b (by rw [hb, Bt.toNat_ofNat _ hc])
          have hpk : packN l (k + 1) = packN l k ++ [b] := by
            unfold packN
            rw [List.range_succ, List.map_append, List.map_singleton, ← hby, ← hb]
          have HK := Lib.hid hpk
          clear hb hby hpk
          have z1 := bs_size_le (packN l k) 20000 (by have := HP.out; unfold packN; simp; omega)
          have z2 := bs_size_le [b] 1 (by simp)
          go_wp2
          refine ⟨⟨k + 1, by rw [bs_append, HK.out], by have := HP.out; congr 1; omega, by have := HP.out; omega, hbel.alloc hsz _⟩, by have := HP.out; simp [intOf]; omega⟩
    · have hkn : k = (n + 7) / 8 := by omega
      have hpk : packN l k = Bt.pack l := by unfold packN Bt.pack; rw [hkn, HN.out]
      rw [hpk]
      have hd : ¬ (((8 * k : Nat) : Int) < (n : Int)) := by omega
      clear hkn hpk
      go_wp2
      go_ret
      exact ⟨rfl, hbel⟩

end Go.Proofs.YtieaiecoiononaaDoor

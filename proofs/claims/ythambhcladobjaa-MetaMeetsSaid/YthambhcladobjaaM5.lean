/- Layer 9: the metas that the statements make. -/
import Derived.Test.YthambhcladobjaaM4
import Derived.Test.YthambhcladobjaaSl3
import Derived.Deep.RegionHeld3
import Derived.Laws.BitsLemmas
namespace Go.Proofs.Ythambhcladobjaa
open Go.RowKit Go.Lib

theorem i64_mask (n : Int) (k : Nat) (hk : k ≤ 62) : bits .and .i64 n ((2 ^ k - 1 : Nat) : Int) = n % ((2 ^ k : Nat) : Int) := by
  have hle : (2 : Nat) ^ k ≤ 2 ^ 62 := Nat.pow_le_pow_right (by decide) hk
  have h62 : (2 : Nat) ^ 62 = 4611686018427387904 := by decide
  have hp : 0 < (2 : Nat) ^ k := Nat.pow_pos (by decide)
  have h3 : (BitVec.ofInt 64 ((2 ^ k - 1 : Nat) : Int)).toNat = 2 ^ k - 1 := by
    rw [BitVec.ofInt_natCast, BitVec.toNat_ofNat]
    exact Nat.mod_eq_of_lt (by omega)
  have key : (BitVec.ofInt 64 n &&& BitVec.ofInt 64 ((2 ^ k - 1 : Nat) : Int)).toNat = (n % ((2 ^ 64 : Nat) : Int)).toNat % 2 ^ k := by
    rw [BitVec.toNat_and, BitVec.toNat_ofInt, h3, Nat.and_two_pow_sub_one_eq_mod]
  show IntKind.i64.wrap ((BitVec.ofInt 64 n &&& BitVec.ofInt 64 ((2 ^ k - 1 : Nat) : Int)).toNat : Nat) = _
  rw [key, IntKind.wrap_i64]
  have hlt : (n % ((2 ^ 64 : Nat) : Int)).toNat % 2 ^ k < 2 ^ k := Nat.mod_lt _ hp
  have hc : (((n % ((2 ^ 64 : Nat) : Int)).toNat % 2 ^ k : Nat) : Int) = n % ((2 ^ k : Nat) : Int) := by
    rw [Int.natCast_emod, Int.toNat_of_nonneg (Int.emod_nonneg _ (by decide))]
    exact Int.emod_emod_of_dvd n (Int.natCast_dvd_natCast.2 (Nat.pow_dvd_pow 2 (by omega)))
  rw [hc] at *
  have h0 : 0 ≤ n % ((2 ^ k : Nat) : Int) := Int.emod_nonneg _ (by omega)
  have h1 : n % ((2 ^ k : Nat) : Int) < ((2 ^ k : Nat) : Int) := Int.emod_lt_of_pos _ (by omega)
  omega

theorem turn_step {S : Nat → Prop} {a b c : World} (h : Turn S a b) (k : Below a.heap.size b c) : Turn S a c :=
  ⟨k.os.trans h.os, k.tape.trans h.tape, k.output.trans h.output, Nat.le_trans h.size k.size, fun i hi hr => (k.block i hi).trans (h.block i hi hr)⟩
theorem range_snoc (i : Nat) : (List.range (i + 1)).map (Idn.nam 0) = (List.range i).map (Idn.nam 0) ++ [Idn.nam 0 i] := by
  rw [List.range_succ, List.map_append]; rfl

/-- A list of texts as cells; of files. -/
def sc (l : List (List UInt8)) : List Value := l.map fun s => .string (bs s)
theorem sc_len (l : List (List UInt8)) : (sc l).length = l.length := by simp [sc]
theorem sc_append (l m : List (List UInt8)) : sc (l ++ m) = sc l ++ sc m := by simp [sc]
theorem sc_one (l : List (List UInt8)) : ∀ v ∈ sc l, v.oneCell' = true := by
  intro v hv
  simp only [sc, List.mem_map] at hv
  obtain ⟨b, _, rfl⟩ := hv
  rfl
def flc (l : List Mt.Fl) : List Value := l.flatMap fun f => [.string (bs f.name), .int .i64 f.size, .int .u32 f.sum]

/-- A meta as a value. -/
def meV (m : Mt.Me) (vf vs : Value) : Value := .agg #[.string (bs m.id), .int .i64 m.mn, .int .i64 m.mx, .int .i64 m.lv, .int .i64 m.se, .int .i64 m.sa, vf, vs]
/-- The answer: a meta, its lists in new memory. -/
def MadeM (w : World) (m : Mt.Me) (e : Ending) (w' : World) : Prop :=
  ∃ vf vs, e = .returned (meV m vf vs) ∧ Sl w' w.heap.size 3 vf m.files.length (flc m.files) ∧ Sl w' w.heap.size 1 vs m.src.length (sc m.src) ∧ Below w.heap.size w w'

theorem turn_set8 (b : Nat) (W : World) (u0 u1 u2 u3 u4 u5 u6 u7 : Value) : Turn (fun k => k = b) W ((((((((W.setCell ⟨b, 0, none⟩ u0).setCell ⟨b, 1, none⟩ u1).setCell ⟨b, 2, none⟩ u2).setCell ⟨b, 3, none⟩ u3).setCell ⟨b, 4, none⟩ u4).setCell ⟨b, 5, none⟩ u5).setCell ⟨b, 6, none⟩ u6).setCell ⟨b, 7, none⟩ u7) :=
  Turn.setCell (S := fun k => k = b) (Turn.setCell (S := fun k => k = b) (Turn.setCell (S := fun k => k = b) (Turn.setCell (S := fun k => k = b) (Turn.setCell (S := fun k => k = b) (Turn.setCell (S := fun k => k = b) (Turn.setCell (S := fun k => k = b) (Turn.setCell (S := fun k => k = b) (Turn.refl _ W) ⟨b, 0, none⟩ u0 rfl) ⟨b, 1, none⟩ u1 rfl) ⟨b, 2, none⟩ u2 rfl) ⟨b, 3, none⟩ u3 rfl) ⟨b, 4, none⟩ u4 rfl) ⟨b, 5, none⟩ u5 rfl) ⟨b, 6, none⟩ u6 rfl) ⟨b, 7, none⟩ u7 rfl
theorem Sl.turn {S : Nat → Prop} {w w' : World} {base size n : Nat} {v : Value} {xs : List Value} (h : Sl w base size v n xs) (t : Turn S w w') (hv : ∀ k, v.ownBlock = some k → ¬ S k) : Sl w' base size v n xs :=
  h.same t.size fun k hk => t.block k (h.lt k hk).2 (hv k hk)

/-- The loop that fills the sources: block xb, as it stood in W3, holds i of them. -/
def Fill (W3 : World) (xb i : Nat) (wr : World) : Prop :=
  ∃ vs, (∀ k, k < 7 → wr.cell? ⟨xb, k, none⟩ = W3.cell? ⟨xb, k, none⟩) ∧ wr.cell? ⟨xb, 7, none⟩ = some vs ∧ wr.frozen? ⟨xb, 7, none⟩ = false ∧ Sl wr W3.heap.size 1 vs i (sc ((List.range i).map (Idn.nam 0))) ∧ Turn (fun k => k = xb) W3 wr

theorem bi_strM : (Try.prog.info? 9).map (fun i => (i.zero, i.size, i.bytes)) = some (some (.string ⟨#[]⟩), 1, 16) := by kernel_rfl

set_option maxHeartbeats 4000000 in
set_option maxRecDepth 100000 in
theorem made_any (vid : List UInt8) (mn mx lv se sa : Int) (vf : Value) (a7 : Option Addr) (n7 k7 : Nat) (tick seq : Int) (w : World) (_hid : vid.length ≤ maxLen) (hn7 : n7 ≤ maxLen) :
    Calls Try.prog 11 #[.agg #[.string (bs vid), .int .i64 mn, .int .i64 mx, .int .i64 lv, .int .i64 se, .int .i64 sa, vf, .slice a7 n7 k7], .int .i64 tick, .int .i64 seq] w (MadeM w (Mt.mdM vid mn mx lv se sa n7 tick seq)) := by
  obtain ⟨i0, hi, hz0, hz1, hz2⟩ := info_parts bi_strM
  have Hz := Lib.hid hz0; have Hs := Lib.hid hz1; have Hb := Lib.hid hz2; have Hi := Lib.hid hi
  clear hz0 hz1 hz2 hi
  obtain ⟨t1, ht1⟩ : ∃ t1 : Nat, tick % 1024 = t1 := ⟨(tick % 1024).toNat, by omega⟩
  obtain ⟨s1, hs1⟩ : ∃ s1 : Nat, seq % 1024 = s1 := ⟨(seq % 1024).toNat, by omega⟩
  obtain ⟨n1, hn1⟩ : ∃ n1 : Nat, mn % 1048576 = n1 := ⟨(mn % 1048576).toNat, by omega⟩
  obtain ⟨x1, hx1⟩ : ∃ x1 : Nat, mx % 65536 = x1 := ⟨(mx % 65536).toNat, by omega⟩
  obtain ⟨l1, hl1⟩ : ∃ l1 : Nat, lv % 8 = l1 := ⟨(lv % 8).toNat, by omega⟩
  obtain ⟨e1, he1⟩ : ∃ e1 : Nat, se % 1024 = e1 := ⟨(se % 1024).toNat, by omega⟩
  obtain ⟨a1, ha1⟩ : ∃ a1 : Nat, sa % 1024 = a1 := ⟨(sa % 1024).toNat, by omega⟩
  have k1 : bits .and .i64 tick 1023 = t1 := by have := i64_mask tick 10 (by decide); rw [← ht1]; exact this
  have k2 : bits .and .i64 seq 1023 = s1 := by have := i64_mask seq 10 (by decide); rw [← hs1]; exact this
  have k3 : bits .and .i64 mn 1048575 = n1 := by have := i64_mask mn 20 (by decide); rw [← hn1]; exact this
  have k4 : bits .and .i64 mx 65535 = x1 := by have := i64_mask mx 16 (by decide); rw [← hx1]; exact this
  have k5 : bits .and .i64 lv 7 = l1 := by have := i64_mask lv 3 (by decide); rw [← hl1]; exact this
  have k6 : bits .and .i64 se 1023 = e1 := by have := i64_mask se 10 (by decide); rw [← he1]; exact this
  have k8 : bits .and .i64 sa 1023 = a1 := by have := i64_mask sa 10 (by decide); rw [← ha1]; exact this
  have q1 : t1 ≤ 1023 := by omega
  have q2 : s1 ≤ 1023 := by omega
  have q3 : n1 ≤ 1048575 := by omega
  have q4 : x1 ≤ 65535 := by omega
  have q5 : l1 ≤ 7 := by omega
  have q6 : e1 ≤ 1023 := by omega
  have q8 : a1 ≤ 1023 := by omega
  obtain ⟨id, hidn⟩ : ∃ id, id = Idn.nam (1 + t1) s1 := ⟨_, rfl⟩
  have M := Lib.hid (fun W => show Calls Try.prog 30 #[.int .i64 (1 + (t1 : Int)), .int .i64 s1] W (fun e w' => e = .returned (.tuple #[.string (bs id), .int .i64 0]) ∧ Below W.heap.size W w') by
    have := make_ok (1 + t1) s1 W (by omega) (by omega)
    rw [hidn]
    rw [show ((1 + t1 : Nat) : Int) = 1 + (t1 : Int) by omega] at this
    exact this)
  have MI := Lib.hid (fun (i : Nat) (hi : i < 9) W => show Calls Try.prog 30 #[.int .i64 0, .int .i64 i] W (fun e w' => e = .returned (.tuple #[.string (bs (Idn.nam 0 i)), .int .i64 0]) ∧ Below W.heap.size W w') from make_ok 0 i W (by omega) (by omega))
  obtain ⟨c20, hc20⟩ : ∃ c, c = vid.take 20 := ⟨_, rfl⟩
  have hc20l : c20.length ≤ 20 := by rw [hc20, List.length_take]; omega
  have HM := Lib.hid (show Mt.mdM vid mn mx lv se sa n7 tick seq = ⟨id, n1, n1 + 1 + x1, 1 + l1, e1, e1 + a1, [⟨Mt.nmC, 1, Crc.sum [99]⟩, ⟨Mt.nmI, c20.length, Crc.sum c20⟩], (List.range (min n7 9)).map (Idn.nam 0)⟩ by
    unfold Mt.mdM
    rw [ht1, hs1, hn1, hx1, hl1, he1, ha1, hidn, hc20]
    have e1 : (1 + (t1 : Int)).toNat = 1 + t1 := by omega
    have e2 : (s1 : Int).toNat = s1 := by omega
    rw [e1, e2])
  rw [HM.out]
  have C := Lib.hid (fun W => show Calls Try.prog 20 #[.string (bs vid), .int .i64 20] W (fun e w' => e = .returned (.string (bs c20)) ∧ W = w') from cut_is (bs vid) c20 20 20 rfl (by
    rw [hc20]
    unfold cutB
    rw [bs_size]
    split
    · rw [extract_bs0]; rfl
    · rw [List.take_of_length_le (by omega)]) W)
  have O1 := Lib.hid (fun W => show Calls Try.prog 31 #[.string ⟨#[99, 104, 117, 110, 107, 115]⟩, .string ⟨#[99]⟩] W (fun e w' => e = .returned (.agg #[.string (bs Mt.nmC), .int .i64 1, .int .u32 (Crc.sum [99] : Nat)]) ∧ w' = W.alloc (.cells #[.string (bs Mt.nmC), .int .i64 1, .int .u32 (Crc.sum [99] : Nat)] 86)) from of_any Mt.nmC [99] W (by decide))
  have O2 := Lib.hid (fun W => show Calls Try.prog 31 #[.string ⟨#[105, 110, 100, 101, 120]⟩, .string (bs c20)] W (fun e w' => e = .returned (.agg #[.string (bs Mt.nmI), .int .i64 c20.length, .int .u32 (Crc.sum c20 : Nat)]) ∧ w' = W.alloc (.cells #[.string (bs Mt.nmI), .int .i64 c20.length, .int .u32 (Crc.sum c20 : Nat)] 86)) from of_any Mt.nmI c20 W (by omega))
  clear ht1 hs1 hn1 hx1 hl1 he1 ha1 hidn hc20
  unfold maxLen at hn7
  go_enter Try.func11, Try.ntmps11
  go_wp2_with fail
  refine (M.out _).mono ?_
  rintro e w1 ⟨rfl, b1⟩
  have z1 := b1.size
  simp at z1
  have hr1 : w1.heap[w.heap.size + 1]? = some (.cells #[.string ⟨#[]⟩, .int .i64 0, .int .i64 0, .int .i64 0, .int .i64 0, .int .i64 0, .slice none 0 0, .slice none 0 0] 51) := by
    have h := heap_alloc_new (w.alloc (.cells #[.string (bs vid), .int .i64 mn, .int .i64 mx, .int .i64 lv, .int .i64 se, .int .i64 sa, vf, .slice a7 n7 k7] 51)) (.cells #[.string ⟨#[]⟩, .int .i64 0, .int .i64 0, .int .i64 0, .int .i64 0, .int .i64 0, .slice none 0 0, .slice none 0 0] 51)
    rw [show (w.alloc (.cells #[.string (bs vid), .int .i64 mn, .int .i64 mx, .int .i64 lv, .int .i64 se, .int .i64 sa, vf, .slice a7 n7 k7] 51)).heap.size = w.heap.size + 1 by simp] at h
    exact (b1.block (w.heap.size + 1) (by simp)).trans h
  have o0 := b1.cell (p := ⟨w.heap.size, 0, none⟩) (by simp <;> omega)
  have o1 := b1.cell (p := ⟨w.heap.size, 1, none⟩) (by simp <;> omega)
  have o2 := b1.cell (p := ⟨w.heap.size, 2, none⟩) (by simp <;> omega)
  have o3 := b1.cell (p := ⟨w.heap.size, 3, none⟩) (by simp <;> omega)
  have o4 := b1.cell (p := ⟨w.heap.size, 4, none⟩) (by simp <;> omega)
  have o5 := b1.cell (p := ⟨w.heap.size, 5, none⟩) (by simp <;> omega)
  have o7 := b1.cell (p := ⟨w.heap.size, 7, none⟩) (by simp <;> omega)
  simp [go_sem] at o0 o1 o2 o3 o4 o5 o7
  have hne : w.heap.size ≠ w1.heap.size := by omega
  have hlt : w.heap.size < w1.heap.size := by omega
  go_wp2_with fail
  have pB : ∀ W, Below w1.heap.size w1 W → W.cell? ⟨w.heap.size, 0, none⟩ = some (.string (bs vid)) := fun W b => (b.cell (p := ⟨w.heap.size, 0, none⟩) hlt).trans o0
  go_region_held3 (fun w' => w'.cell? ⟨w.heap.size, 0, none⟩ = some (.string (bs vid)))
    (first
      | exact pB _ (((Below.refl _ _).alloc (Nat.le_refl _) _).drew)
      | exact pB _ ((((Below.refl _ _).alloc (Nat.le_refl _) _).alloc (by simp) _).drew)
      | exact pB _ (((((Below.refl _ _).alloc (Nat.le_refl _) _).alloc (by simp) _).alloc (by simp; omega) _).drew)
      | exact pB _ ((((((Below.refl _ _).alloc (Nat.le_refl _) _).alloc (by simp) _).alloc (by simp; omega) _).alloc (by simp; omega) _).drew)
      | exact pB _ (((((((Below.refl _ _).alloc (Nat.le_refl _) _).alloc (by simp) _).alloc (by simp; omega) _).alloc (by simp; omega) _).drew).setCell (Nat.le_refl _) _)
      | assumption)
    (first
      | (go_at_call 20; refine (C.out _).mono ?_; rintro e w5 ⟨rfl, rfl⟩)
      | (go_at_call 31; first | (with_reducible refine (O1.out _).mono ?_; rintro e w6 ⟨rfl, rfl⟩) | (with_reducible refine (O2.out _).mono ?_; rintro e w7 ⟨rfl, rfl⟩)))
  go_wp2_with fail
  obtain ⟨W3, hW3⟩ : ∃ W3, W3 = ((((w1.alloc (.cells #[.string (bs id), .int .i64 n1, .int .i64 (n1 + 1 + x1), .int .i64 (1 + l1), .int .i64 e1, .int .i64 (e1 + a1), .slice (some ⟨w1.heap.size + 1 + 1 + 1, 0, none⟩) 2 2, .slice none 0 0] 51)).alloc (.cells #[.string (bs Mt.nmC), .int .i64 1, .int .u32 (Crc.sum [99] : Nat)] 86)).alloc (.cells #[.string (bs Mt.nmI), .int .i64 c20.length, .int .u32 (Crc.sum c20 : Nat)] 86)).alloc (.cells #[.string (bs Mt.nmC), .int .i64 1, .int .u32 (Crc.sum [99] : Nat), .string (bs Mt.nmI), .int .i64 c20.length, .int .u32 (Crc.sum c20 : Nat)] 86)).drew := ⟨_, rfl⟩
  obtain ⟨X, hX⟩ : ∃ X : Obj, X = .cells #[.string (bs id), .int .i64 n1, .int .i64 (n1 + 1 + x1), .int .i64 (1 + l1), .int .i64 e1, .int .i64 (e1 + a1), .slice (some ⟨w1.heap.size + 1 + 1 + 1, 0, none⟩) 2 2, .slice none 0 0] 51 := ⟨_, rfl⟩
  have z3 : W3.heap.size = w1.heap.size + 4 := by rw [hW3]; simp
  have bX : Below (w1.heap.size + 1) (w1.alloc X) W3 := by
    rw [hW3, ← hX]; exact ((((Below.refl _ _).alloc (by simp) _).alloc (by simp <;> omega) _).alloc (by simp <;> omega) _).drew
  have hx3 : W3.heap[w1.heap.size]? = some X := (bX.block _ (by omega)).trans (heap_alloc_new w1 X)
  have b3 : Below w1.heap.size w1 W3 := ((Below.refl _ _).alloc (Nat.le_refl _) X).trans (bX.mono (by omega))
  have SF : Sl W3 w.heap.size 3 (.slice (some ⟨w1.heap.size + 1 + 1 + 1, 0, none⟩) 2 2) 2 (flc [⟨Mt.nmC, 1, Crc.sum [99]⟩, ⟨Mt.nmI, c20.length, Crc.sum c20⟩]) := by
    rw [hW3]
    have := Sl.lit (((w1.alloc (.cells #[.string (bs id), .int .i64 n1, .int .i64 (n1 + 1 + x1), .int .i64 (1 + l1), .int .i64 e1, .int .i64 (e1 + a1), .slice (some ⟨w1.heap.size + 1 + 1 + 1, 0, none⟩) 2 2, .slice none 0 0] 51)).alloc (.cells #[.string (bs Mt.nmC), .int .i64 1, .int .u32 (Crc.sum [99] : Nat)] 86)).alloc (.cells #[.string (bs Mt.nmI), .int .i64 c20.length, .int .u32 (Crc.sum c20 : Nat)] 86)) w.heap.size 3 2 #[.string (bs Mt.nmC), .int .i64 1, .int .u32 (Crc.sum [99] : Nat), .string (bs Mt.nmI), .int .i64 c20.length, .int .u32 (Crc.sum c20 : Nat)] 86 (by simp; omega) (by decide) rfl
    have hz : (((w1.alloc (.cells #[.string (bs id), .int .i64 n1, .int .i64 (n1 + 1 + x1), .int .i64 (1 + l1), .int .i64 e1, .int .i64 (e1 + a1), .slice (some ⟨w1.heap.size + 1 + 1 + 1, 0, none⟩) 2 2, .slice none 0 0] 51)).alloc (.cells #[.string (bs Mt.nmC), .int .i64 1, .int .u32 (Crc.sum [99] : Nat)] 86)).alloc (.cells #[.string (bs Mt.nmI), .int .i64 c20.length, .int .u32 (Crc.sum c20 : Nat)] 86)).heap.size = w1.heap.size + 1 + 1 + 1 := by simp
    rw [hz] at this
    exact this.drew
  have HW3 := Lib.hid hW3
  have o73 : W3.cell? ⟨w.heap.size, 7, none⟩ = some (.slice a7 n7 k7) := (b3.cell (p := ⟨w.heap.size, 7, none⟩) hlt).trans o7
  have f3 : W3.frozen? ⟨w1.heap.size, 7, none⟩ = false := by simp only [World.frozen?, hx3, hX]; simp
  have x73 : W3.cell? ⟨w1.heap.size, 7, none⟩ = some (.slice none 0 0) := by rw [Lib.cell_of_heap (hX ▸ hx3)]; rfl
  have hFill : Fill W3 w1.heap.size 0 W3 := ⟨.slice none 0 0, fun _ _ => rfl, x73, f3, Sl.nil _ _ _, Turn.refl _ _⟩
  have hr3 := (b3.block (w.heap.size + 1) (by omega)).trans hr1
  have HR := Lib.hid hr3
  have HX := Lib.hid hX
  have HX3 := Lib.hid hx3
  clear hW3 hX hx3 f3 x73 bX o0 o1 o2 o3 o4 o5 o7 pB k1 k2 k3 k4 k5 k6 k8 O1 O2 C M hr1 hr3
  go_loopw [10] (fun i' wr => ∃ (i : Nat), i' = .int .i64 i ∧ i ≤ n7 ∧ i ≤ 9 ∧ Fill W3 w1.heap.size i wr) (fun i' _ => 9 - (intOf i').toNat)
  case atStart => exact ⟨0, rfl, by omega, by omega, by rw [← HW3.out]; exact hFill⟩
  case round =>
    clear hFill
    obtain ⟨i, rfl, hin, hi9, vs, hk, hc7, hf7, hsl, htu⟩ := hrel
    have zr := htu.size
    have p7 : wr.cell? ⟨w.heap.size, 7, none⟩ = some (.slice a7 n7 k7) := (htu.cell (p := ⟨w.heap.size, 7, none⟩) (by simp only; omega) (by simp only; omega)).trans o73
    by_cases h1 : i < n7 ∧ i < 9
    · obtain ⟨h1, h2⟩ := h1
      have h1' : (i : Int) < n7 := by omega
      have h2' : (i : Int) < 9 := by omega
      have HK := Lib.hid hk
      clear hk
      go_wp2_with fail
      refine (MI.out i h2 _).mono ?_
      rintro e w5 ⟨rfl, b5⟩
      have z5 := b5.size
      have c75 := (b5.cell (p := ⟨w1.heap.size, 7, none⟩) (by simp only; omega)).trans hc7
      have f75 := (b5.frozen (p := ⟨w1.heap.size, 7, none⟩) (by simp only; omega)).trans hf7
      have hne5 : w1.heap.size ≠ w5.heap.size := by omega
      go_wp2_with (at_builtin; refine wpList_append_sl _ rfl (.tmp 73) (.tmp 75) 49 rfl W3.heap.size 9 i0 (.string ⟨#[]⟩) 1 16 Try.underlying49 Hi.out Hz.out Hs.out Hb.out rfl (by decide) vs i (sc ((List.range i).map (Idn.nam 0))) rfl ((hsl.on b5).alloc _) ⟨w5.heap.size, 0, none⟩ 1 1 [_] rfl rfl (cell_one_new _ _ _) (by simp [Value.oneCell']) (by unfold maxLen; omega) (by omega) (by simp; omega) ?_; intro v6 w6 x6; obtain ⟨a6, k6, rfl⟩ := x6.now.slice; have hb6 := x6.below (B := W3.heap.size) (Nat.le_refl _) (by simp; omega); have c76 : w6.cell? ⟨w1.heap.size, 7, none⟩ = some vs := ((hb6.cell (p := ⟨w1.heap.size, 7, none⟩) (by simp only; omega)).trans ((((Below.refl w5.heap.size w5).alloc (Nat.le_refl _) _).cell (p := ⟨w1.heap.size, 7, none⟩) (by simp only; omega)))).trans c75; have f76 : w6.frozen? ⟨w1.heap.size, 7, none⟩ = false := ((hb6.frozen (p := ⟨w1.heap.size, 7, none⟩) (by simp only; omega)).trans ((((Below.refl w5.heap.size w5).alloc (Nat.le_refl _) _).frozen (p := ⟨w1.heap.size, 7, none⟩) (by simp only; omega)))).trans f75)
      have B6 : Below W3.heap.size wr w6 := ((b5.mono zr).alloc (by omega) _).trans hb6
      refine ⟨⟨i + 1, by go_num, by omega, by omega, .slice a6 (i + 1) k6, fun k hk => ?_, ?_, ?_, ?_, ?_⟩, by simp [intOf]; omega⟩
      · rw [cell_setCell_other _ _ _ _ _ (.inr (by simp only; omega))]
        exact (B6.cell (p := ⟨w1.heap.size, k, none⟩) (by simp only; omega)).trans (HK.out k hk)
      · exact cell_setCell_same _ _ _ _ (by rw [c76]; rfl)
      · rw [frozen_setCell]; exact f76
      · rw [range_snoc, sc_append]
        exact sl_else x6.now _ _ (by simp only; omega)
      · exact (turn_step htu B6).setCell _ _ rfl
    · have hii : i = min n7 9 := by omega
      have hx3 := HX3.out
      rw [HX.out] at hx3
      have c0 := (hk 0 (by omega)).trans (Lib.cell_of_heap hx3 0)
      have c1 := (hk 1 (by omega)).trans (Lib.cell_of_heap hx3 1)
      have c2 := (hk 2 (by omega)).trans (Lib.cell_of_heap hx3 2)
      have c3 := (hk 3 (by omega)).trans (Lib.cell_of_heap hx3 3)
      have c4 := (hk 4 (by omega)).trans (Lib.cell_of_heap hx3 4)
      have c5 := (hk 5 (by omega)).trans (Lib.cell_of_heap hx3 5)
      have c6 := (hk 6 (by omega)).trans (Lib.cell_of_heap hx3 6)
      simp only [List.getElem?_toArray, List.getElem?_cons_zero, List.getElem?_cons_succ] at c0 c1 c2 c3 c4 c5 c6
      have hw8 := (htu.block (w.heap.size + 1) (by omega) (by omega)).trans HR.out
      have r0 : wr.cell? ⟨w.heap.size + 1, 0, none⟩ = some (.string ⟨#[]⟩) := Lib.cell_of_heap hw8 0
      have r1 : wr.cell? ⟨w.heap.size + 1, 1, none⟩ = some (.int .i64 0) := Lib.cell_of_heap hw8 1
      have r2 : wr.cell? ⟨w.heap.size + 1, 2, none⟩ = some (.int .i64 0) := Lib.cell_of_heap hw8 2
      have r3 : wr.cell? ⟨w.heap.size + 1, 3, none⟩ = some (.int .i64 0) := Lib.cell_of_heap hw8 3
      have r4 : wr.cell? ⟨w.heap.size + 1, 4, none⟩ = some (.int .i64 0) := Lib.cell_of_heap hw8 4
      have r5 : wr.cell? ⟨w.heap.size + 1, 5, none⟩ = some (.int .i64 0) := Lib.cell_of_heap hw8 5
      have r6 : wr.cell? ⟨w.heap.size + 1, 6, none⟩ = some (.slice none 0 0) := Lib.cell_of_heap hw8 6
      have r7 : wr.cell? ⟨w.heap.size + 1, 7, none⟩ = some (.slice none 0 0) := Lib.cell_of_heap hw8 7
      have g0 := Lib.frozen_of_heap hw8 0
      have g1 := Lib.frozen_of_heap hw8 1
      have g2 := Lib.frozen_of_heap hw8 2
      have g3 := Lib.frozen_of_heap hw8 3
      have g4 := Lib.frozen_of_heap hw8 4
      have g5 := Lib.frozen_of_heap hw8 5
      have g6 := Lib.frozen_of_heap hw8 6
      have g7 := Lib.frozen_of_heap hw8 7
      have hB : Below w.heap.size w wr := ((((Below.refl w.heap.size w).alloc (Nat.le_refl _) _).alloc (by simp) _).trans (b1.mono (by simp <;> omega))).trans ((b3.mono (by omega)).trans (htu.below (by omega) (fun k hk => by omega)))
      have SF' : Sl wr w.heap.size 3 (.slice (some ⟨w1.heap.size + 1 + 1 + 1, 0, none⟩) 2 2) 2 (flc [⟨Mt.nmC, 1, Crc.sum [99]⟩, ⟨Mt.nmI, c20.length, Crc.sum c20⟩]) := SF.same htu.size fun k hk => htu.block k (SF.lt k hk).2 (by
        simp [Value.ownBlock] at hk; omega)
      have HSW := Lib.hid (fun k hk => (hsl.lt k hk).1)
      have HSL := Lib.hid (hsl.mono (show w.heap.size ≤ W3.heap.size by omega))
      have HSF := Lib.hid SF'
      obtain ⟨av, kv, rfl⟩ := hsl.slice
      have HH := Lib.hid hii
      clear hk hx3 hw8 SF SF' hii hsl o73
      have hrl : ((List.range (min n7 9)).map (Idn.nam 0)).length = i := by rw [List.length_map, List.length_range, HH.out]
      have HRL := Lib.hid hrl
      have hn1 : ∀ k, (Value.slice av i kv).ownBlock = some k → W3.heap.size ≤ k := fun k hk => (HSW.out k hk)
      clear hrl
      by_cases hx : i < n7
      · have h1' : (i : Int) < n7 := by omega
        have h2' : ¬ (i : Int) < 9 := by omega
        clear h1 hx
        go_wp2
        refine bodyPost_ret (v := meV ⟨id, n1, n1 + 1 + x1, 1 + l1, e1, e1 + a1, [⟨Mt.nmC, 1, Crc.sum [99]⟩, ⟨Mt.nmI, c20.length, Crc.sum c20⟩], (List.range (min n7 9)).map (Idn.nam 0)⟩ (.slice (some ⟨w1.heap.size + 1 + 1 + 1, 0, none⟩) 2 2) (.slice av i kv)) (by simp [results, Try.results11, go_sem, meV, r0, r1, r2, r3, r4, r5, r6, r7]) rfl ?_
        refine ⟨_, _, rfl, HSF.out.turn (turn_set8 _ _ _ _ _ _ _ _ _ _) (fun k hk => by simp [Value.ownBlock] at hk; omega), ?_, hB.trans ((turn_set8 _ _ _ _ _ _ _ _ _ _).below (by omega) (fun k hk => by omega))⟩
        show Sl _ _ _ _ ((List.range (min n7 9)).map (Idn.nam 0)).length _
        rw [HRL.out, ← HH.out]
        exact HSL.out.turn (turn_set8 _ _ _ _ _ _ _ _ _ _) (fun k hk => by have := hn1 k hk; omega)
      · have h1' : ¬ (i : Int) < n7 := by omega
        clear h1 hx
        go_wp2
        refine bodyPost_ret (v := meV ⟨id, n1, n1 + 1 + x1, 1 + l1, e1, e1 + a1, [⟨Mt.nmC, 1, Crc.sum [99]⟩, ⟨Mt.nmI, c20.length, Crc.sum c20⟩], (List.range (min n7 9)).map (Idn.nam 0)⟩ (.slice (some ⟨w1.heap.size + 1 + 1 + 1, 0, none⟩) 2 2) (.slice av i kv)) (by simp [results, Try.results11, go_sem, meV, r0, r1, r2, r3, r4, r5, r6, r7]) rfl ?_
        refine ⟨_, _, rfl, HSF.out.turn (turn_set8 _ _ _ _ _ _ _ _ _ _) (fun k hk => by simp [Value.ownBlock] at hk; omega), ?_, hB.trans ((turn_set8 _ _ _ _ _ _ _ _ _ _).below (by omega) (fun k hk => by omega))⟩
        show Sl _ _ _ _ ((List.range (min n7 9)).map (Idn.nam 0)).length _
        rw [HRL.out, ← HH.out]
        exact HSL.out.turn (turn_set8 _ _ _ _ _ _ _ _ _ _) (fun k hk => by have := hn1 k hk; omega)
end Go.Proofs.Ythambhcladobjaa

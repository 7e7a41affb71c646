/- Layer 6: a slice of pairs that came in, opened; Few. Layer 6: two sets compared. Layer 1 in plain words: numbers as bytes, bytes as numbers. No program's text. -/
import Derived.Test.YtefhnjepocbodaaGreatDoorMIY1
import Derived.Deep.SlicePairs
import Derived.Deep.RegionHeld3
import Derived.OpenShut
import Derived.WalkKit
import Derived.Lib.Hide
namespace Go.Proofs.YtefhnjepocbodaaGreatDoor
open Go.RowKit Go.Lib Go.Deep Go.ChangeShapes Go.WideShapes

/-- Pairs read from cells, the first ten. -/
def PrsAt (w : World) (ao : Option Addr) (len : Nat) (ds : List Pr) : Prop :=
  ds.length = min len 10 ∧ (0 < len → ∃ b off, ao = some ⟨b, off, none⟩ ∧ b < w.heap.size ∧ ∀ i x, ds[i]? = some x → w.cell? ⟨b, off + i * 2, none⟩ = some (.string (bs x.n)) ∧ w.cell? ⟨b, off + i * 2 + 1, none⟩ = some (.string (bs x.v)))
theorem PrsAt.below {w w' : World} {ao : Option Addr} {len : Nat} {ds : List Pr} (h : PrsAt w ao len ds) (b : Below w.heap.size w w') : PrsAt w' ao len ds := by
  refine ⟨h.1, fun h0 => ?_⟩
  obtain ⟨g, off, he, hg, hc⟩ := h.2 h0
  refine ⟨g, off, he, Nat.lt_of_lt_of_le hg b.size, fun i x hx => ?_⟩
  obtain ⟨c0, c1⟩ := hc i x hx
  exact ⟨(b.cell (p := ⟨g, off + i * 2, none⟩) hg).trans c0, (b.cell (p := ⟨g, off + i * 2 + 1, none⟩) hg).trans c1⟩

def listOf : Value → List UInt8 | .string s => s.data.toList | _ => []
theorem prs_open {H : Type} {enc : TypeId × Value → H} {W : World} {base : Nat} {spare : Nat → Bool} {held : Bool} {fuel : Nat} {ao : Option Addr} {len cap : Nat} {x : DataW H × List MemPlace}
    (h : DataW.trod enc Tryz.prog W base spare held fuel 47 [.slice ao len cap] = some x) : ∃ ds, len ≤ maxLen ∧ PrsAt W ao len ds := by
  rcases open_slice_pairs Tryz.underlying47 Tryz.underlying53 (by kernel_rfl) rfl rfl (by kernel_rfl) (by kernel_rfl) h with ⟨hcs, _⟩ | ⟨a, len', cap', m, n, V0, V1, D0, D1, P0, P1, hcs, hb, hl, hm, hmm, _, hi⟩
  · simp only [List.cons.injEq, Value.slice.injEq, and_true] at hcs
    obtain ⟨rfl, rfl, rfl⟩ := hcs
    exact ⟨[], Nat.zero_le _, by simp, fun h => absurd h (Nat.lt_irrefl 0)⟩
  · simp only [List.cons.injEq, Value.slice.injEq, and_true] at hcs
    obtain ⟨rfl, rfl, rfl⟩ := hcs
    have hlm : len ≤ m := by rw [hmm]; split <;> omega
    refine ⟨(List.range (min len 10)).map fun i => ⟨listOf (V0 i), listOf (V1 i)⟩, Nat.le_trans hl hm, by simp, fun h0 => ?_⟩
    obtain ⟨b, off, spot⟩ := a
    have hspot : spot = none := by
      have := World.cell?_spot (hi 0 (by omega)).1
      simpa [Addr.add] using this
    subst hspot
    have hc0 := (hi 0 (by omega)).1
    refine ⟨b, off, rfl, ?_, fun i x hik => ?_⟩
    · have := World.block_lt_of_cell? W _ hc0
      rwa [add_plain] at this
    · have hlt : i < min len 10 := by
        have := (List.getElem?_eq_some_iff.1 hik).1
        simpa using this
      obtain ⟨g0, g1, t0, t1⟩ := hi i (by omega)
      rw [add_plain] at g0 g1
      obtain ⟨s0, hs0, _, _⟩ := DataW.trod_string Tryz.underlying9 t0
      obtain ⟨s1, hs1, _, _⟩ := DataW.trod_string Tryz.underlying9 t1
      simp only [List.cons.injEq, and_true] at hs0 hs1
      simp only [List.getElem?_map, List.getElem?_range hlt, Option.map_some, Option.some.injEq] at hik
      subst hik
      rw [← Nat.add_assoc] at g1
      refine ⟨?_, ?_⟩
      · rw [g0, hs0]; rfl
      · rw [g1, hs1]; rfl

/-- 'append(v, x..)', in a region that draws its order. -/
theorem step_append_slB {P : Program} {ops : Array Oper} {o : Oper} {a : Act} {w : World} {K : Act → World → Prop} {Q : Exit → Act → World → Prop} {E : Prop} (hgd : o.guard = none) (s x : Operand) (t : TypeId)
    (ho : o.op = .call { callee := .builtin .append, args := #[s, x], argTypes := #[t, t] })
    (base : Nat) (e : TypeId) (i : TypeInfo) (z : Value) (size bytes : Nat) (ht : P.underlying t = some (.slice e)) (hi : P.info? e = some i) (hz : i.zero = some z)
    (hsize : i.size = size) (hby : i.bytes = bytes) (hzs : z.cells.size = size) (hsz : 0 < size)
    (v : Value) (n : Nat) (xs : List Value) (hs : a.eval s = v) (hown : Sl w base size v n xs)
    (ad : Addr) (m c : Nat) (news : List Value) (hx : a.eval x = .slice (some ad) m c) (hl : news.length = m * size) (hnews : ∀ j u, news[j]? = some u → w.cell? (ad.add j) = some u) (h1 : ∀ u ∈ news, u.oneCell' = true)
    (h63 : n + m ≤ maxLen) (hbytes : (n + m) * bytes ≤ 140737488355328) (hbase : base ≤ w.heap.size)
    (h : ∀ v' w', Ext base size w v n xs w' v' (n + m) (xs ++ news) → K (a.put o.dst v') w') :
    if Region.wanted o (yielded ops a.tmps) = true then Oper.wp P o a w K Q else E := by
  have hw : Region.wanted o (yielded ops a.tmps) = true := by simp [Region.wanted, hgd]
  rw [if_pos hw]
  obtain ⟨v', w', hr, h2⟩ := run_append_sl (P := P) w base t o.type e i z size bytes ht hi hz hsize hby hzs hsz v n xs hown ad m c news hl hnews h1 h63 hbytes hbase
  unfold Oper.wp execOp
  simp only [ho, resolve, invoke, builtin, Sem.run_bind, Sem.run_pure, Result.andThen_ok, List.map_toArray, List.map_cons, List.map_nil, hs, hx, hr]
  exact h v' w' h2

theorem cutB_bs (d : List UInt8) (n : Nat) : cutB (bs d) n = bs (d.take n) := by
  unfold cutB
  rw [bs_size]
  split
  · rw [extract_bs0]; rfl
  · rw [List.take_of_length_le (by omega)]
theorem cut42 (d : List UInt8) (w : World) : Calls Tryz.prog 28 #[.string (bs d), .int .i64 42] w fun e w' => e = .returned (.string (bs (d.take 42))) ∧ w = w' :=
  cut_is (bs d) (d.take 42) 42 42 rfl (cutB_bs d 42) w

/-- Pairs of short texts. -/
def f42 (ds : List Pr) : List Pr := ds.map fun x => ⟨x.n.take 42, x.v.take 42⟩
theorem f42_len (ds : List Pr) : (f42 ds).length = ds.length := by simp [f42]
theorem two_cells (w : World) (a b : Value) (t : TypeId) : ∀ j u, [a, b][j]? = some u → ((w.alloc (.cells #[a, b] t)).drew).cell? ((⟨w.heap.size, 0, none⟩ : Addr).add j) = some u := by
  intro j u hu
  have := (Sl.lit w w.heap.size 2 1 #[a, b] t (Nat.le_refl _) (by decide) rfl).cells j u hu
  exact this

set_option maxHeartbeats 2000000 in
set_option maxRecDepth 100000 in
theorem few_any (ao : Option Addr) (len cap : Nat) (ds : List Pr) (w : World) (hlen : len ≤ maxLen) (h : PrsAt w ao len ds) :
    Calls Tryz.prog 14 #[.slice ao len cap] w (NewP w (f42 ds)) := by
  obtain ⟨i0, hi, hz0, hz1, hz2⟩ := info_parts zc_pair
  have Hz := Lib.hid hz0; have Hs := Lib.hid hz1; have Hb := Lib.hid hz2; have Hi := Lib.hid hi
  clear hz0 hz1 hz2 hi
  obtain ⟨hrl, hcells⟩ := h
  unfold maxLen at hlen
  have hrl1 : ds.length ≤ len := by omega
  have hrl2 : ds.length ≤ 10 := by omega
  have hrl3 : len ≤ ds.length ∨ 10 ≤ ds.length := by omega
  clear hrl
  go_enter Tryz.func14, Tryz.ntmps14
  go_wp2
  go_loopw [3, 4] (fun o' i' wr => ∃ (k : Nat), i' = .int .i64 k ∧ k ≤ ds.length ∧ Sl wr w.heap.size 2 o' k (prc (f42 (ds.take k))) ∧ Below w.heap.size w wr) (fun _ i' _ => ds.length - (intOf i').toNat)
  case atStart => exact ⟨0, rfl, Nat.zero_le _, Sl.lit w w.heap.size 2 0 #[] _ (Nat.le_refl _) (by decide) rfl, (Below.refl _ _).alloc (Nat.le_refl _) _⟩
  case round =>
    obtain ⟨k, rfl, hk, hown, hbel⟩ := hrel
    by_cases hlt : k < ds.length
    · have h1 : k < len := by omega
      have h2 : k < 10 := by omega
      obtain ⟨b, off, hao, hb, hc⟩ := hcells (by omega)
      obtain ⟨x, hx⟩ : ∃ x, ds[k]? = some x := ⟨_, List.getElem?_eq_getElem hlt⟩
      obtain ⟨c0, c1⟩ := hc k x hx
      have hbw := hbel.size
      have p0 : wr.cell? ⟨b, off + k * 2, none⟩ = some (.string (bs x.n)) := (hbel.cell (p := ⟨b, off + k * 2, none⟩) hb).trans c0
      have p1 : wr.cell? ⟨b, off + k * 2 + 1, none⟩ = some (.string (bs x.v)) := (hbel.cell (p := ⟨b, off + k * 2 + 1, none⟩) hb).trans c1
      have HK := Lib.hid hx
      subst hao
      clear hc c0 c1 hx
      go_wp2
      have hbd := hbel.drew
      have i1 : (k : Int) < (len : Int) := by omega
      have i2 : (0 : Int) ≤ (k : Int) := by omega
      have hbr : b < wr.heap.size := by omega
      have q : ∀ o, (wr.alloc o).drew.cell? ⟨b, off + k * 2, none⟩ = some (.string (bs x.n)) ∧ (wr.alloc o).drew.cell? ⟨b, off + k * 2 + 1, none⟩ = some (.string (bs x.v)) := fun o =>
        ⟨(((Below.refl wr.heap.size wr).alloc (Nat.le_refl _) o).drew.cell (p := ⟨b, off + k * 2, none⟩) hbr).trans p0, (((Below.refl wr.heap.size wr).alloc (Nat.le_refl _) o).drew.cell (p := ⟨b, off + k * 2 + 1, none⟩) hbr).trans p1⟩
      go_region_held3 (fun w' => w'.cell? ⟨b, off + k * 2, none⟩ = some (.string (bs x.n)) ∧ w'.cell? ⟨b, off + k * 2 + 1, none⟩ = some (.string (bs x.v)))
        (first | exact ⟨p0, p1⟩ | exact q _ | assumption)
        (first
          | (go_at_call 28; refine (cut42 _ _).mono ?_; rintro e w1 ⟨rfl, rfl⟩)
          | (refine step_append_slB rfl (.tmp 16) (.tmp 30) 47 rfl w.heap.size 53 i0 _ 2 32 Tryz.underlying47 Hi.out Hz.out Hs.out Hb.out rfl (by decide) u3 k (prc (f42 (ds.take k))) (by simp [Act.eval]) (hown.alloc _).drew ⟨wr.heap.size, 0, none⟩ 1 1 [.string (bs (x.n.take 42)), .string (bs (x.v.take 42))] (by simp [Act.eval]) rfl (two_cells _ _ _ _) (by simp [Value.oneCell']) (by unfold maxLen; omega) (by omega) (by simp; omega) ?_; intro v2 w2 x2; have hb2 : Below w.heap.size w w2 := ((hbel.alloc hbw _).drew).trans (x2.below (Nat.le_refl _) (by simp; omega)); have r0 : w2.cell? ⟨b, off + k * 2, none⟩ = some (.string (bs x.n)) ∧ w2.cell? ⟨b, off + k * 2 + 1, none⟩ = some (.string (bs x.v)) := ⟨(hb2.cell (p := ⟨b, off + k * 2, none⟩) hb).trans ((hbel.cell (p := ⟨b, off + k * 2, none⟩) hb).symm.trans p0), (hb2.cell (p := ⟨b, off + k * 2 + 1, none⟩) hb).trans ((hbel.cell (p := ⟨b, off + k * 2 + 1, none⟩) hb).symm.trans p1)⟩))
      go_wp2
      have ht : ds.take (k + 1) = ds.take k ++ [x] := by
        have := HK.out
        rw [List.take_add_one, this]; rfl
      refine ⟨⟨k + 1, by go_num, by omega, ?_, hb2⟩, by simp [intOf]; omega⟩
      rw [ht, f42, List.map_append, prc_append]
      exact x2.now
    · have hv := hown
      have hkk : k = ds.length := by omega
      subst hkk
      rw [List.take_length] at hv
      obtain ⟨a, c, he⟩ := hv.slice
      rw [he] at hv
      have HE := Lib.hid he
      have HV := Lib.hid hv
      clear he hv
      go_wp2
      all_goals
        go_ret
        refine ⟨_, rfl, ?_, hbel⟩
        rw [f42_len]
        have h3 := HV.out
        rw [← HE.out] at h3
        exact h3
end Go.Proofs.YtefhnjepocbodaaGreatDoor

namespace Go.Proofs.YtefhnjepocbodaaGreatDoor
open Go.RowKit Go.Lib

/-- Two sets compared, pair by pair. -/
def cmpS : List Pr → List Pr → Int
  | [], [] => 0
  | [], _ :: _ => -1
  | _ :: _, [] => 1
  | x :: a, y :: b => if cfP x y = 0 then cmpS a b else cfP x y

theorem cmpp_at (x y : Pr) (w : World) (c : Int) (hc : cfP x y = c) : Calls Tryz.prog 65 #[prV x, prV y] w fun e w' => e = .returned (.int .i64 c) ∧ Below w.heap.size w w' := by
  subst hc
  refine (cmpp_any x y w).mono ?_
  rintro e w' ⟨rfl, q, os, rfl⟩
  exact ⟨rfl, ⟨rfl, rfl, rfl, by simp, fun k hk => Sort.heap_grow_old _ _ hk⟩⟩

end Go.Proofs.YtefhnjepocbodaaGreatDoor

namespace Go.Proofs.YtefhnjepocbodaaGreatDoor.Leb

def two64 : Nat := 18446744073709551616

/-- The bytes of v, at most k and one more. -/
def enc : Nat → Nat → List UInt8
  | 0, v => [UInt8.ofNat v]
  | k + 1, v => if v < 128 then [UInt8.ofNat v] else UInt8.ofNat (v % 128 + 128) :: enc k (v / 128)
def encU (v : Nat) : List UInt8 := enc 9 v

theorem enc_stop (k v : Nat) (h : v < 128) : enc k v = [UInt8.ofNat v] := by
  cases k with
  | zero => rfl
  | succ k => rw [enc, if_pos h]
theorem enc_step (k v : Nat) (h : ¬ v < 128) : enc (k + 1) v = UInt8.ofNat (v % 128 + 128) :: enc k (v / 128) := by rw [enc, if_neg h]

theorem enc_len (k : Nat) : ∀ v, 1 ≤ (enc k v).length ∧ (enc k v).length ≤ k + 1 := by
  induction k with
  | zero => intro v; simp [enc]
  | succ k ih =>
    intro v
    by_cases h : v < 128
    · rw [enc_stop _ _ h]; simp
    · rw [enc_step _ _ h]
      have := ih (v / 128)
      simp only [List.length_cons]
      omega
theorem encU_len (v : Nat) : 1 ≤ (encU v).length ∧ (encU v).length ≤ 10 := enc_len 9 v

/-- The number, what is left, the error: from place i on, of which the bytes ahead said acc. -/
def dec : Nat → Nat → List UInt8 → Nat × List UInt8 × Nat
  | _, _, [] => (0, [], 2)
  | i, acc, c :: r =>
    if i = 9 ∧ 1 < c.toNat then (0, [], 3)
    else if 0 < i ∧ c.toNat = 0 then (0, [], 3)
    else if c.toNat < 128 then (acc + c.toNat % 128 * 128 ^ i, r, 0)
    else dec (i + 1) (acc + c.toNat % 128 * 128 ^ i) r
def takeU (l : List UInt8) : Nat × List UInt8 × Nat := dec 0 0 l

/-- A signed number as one that isn't. -/
def foldN (v : Int) : Nat := if v < 0 then (-2 * v - 1).toNat else (2 * v).toNat
def unfoldN (u : Nat) : Int := if u % 2 = 1 then -((u / 2 : Nat) : Int) - 1 else ((u / 2 : Nat) : Int)
theorem fold_lt (v : Int) (h0 : -9223372036854775808 ≤ v) (h1 : v ≤ 9223372036854775807) : foldN v < two64 := by
  unfold foldN two64; split <;> omega
theorem unfold_fold (v : Int) : unfoldN (foldN v) = v := by
  unfold foldN unfoldN
  split <;> split <;> omega
theorem fold_unfold (u : Nat) : foldN (unfoldN u) = u := by
  unfold foldN unfoldN
  split <;> split <;> omega
theorem unfold_bd (u : Nat) (h : u < two64) : -9223372036854775808 ≤ unfoldN u ∧ unfoldN u ≤ 9223372036854775807 := by
  unfold two64 at h
  unfold unfoldN
  split <;> omega

theorem toNat_ofNat (n : Nat) (h : n < 256) : (UInt8.ofNat n).toNat = n := by
  simp [Nat.mod_eq_of_lt h]

/-- What was written is read again, from any place on. -/
theorem dec_enc (t : List UInt8) : ∀ (k i acc v : Nat), i + k = 9 → v < 2 * 128 ^ k → (0 < i → 0 < v) → dec i acc (enc k v ++ t) = (acc + v * 128 ^ i, t, 0) := by
  intro k
  induction k with
  | zero =>
    intro i acc v hi hv h0
    have h1 : v < 2 := by simpa using hv
    have ht := toNat_ofNat v (by omega)
    rw [enc, List.cons_append, List.nil_append, dec, if_neg (by rw [ht]; omega), if_neg (by rw [ht]; omega), if_pos (by rw [ht]; omega), ht, Nat.mod_eq_of_lt (by omega)]
  | succ k ih =>
    intro i acc v hi hv h0
    by_cases h : v < 128
    · have ht := toNat_ofNat v (by omega)
      rw [enc_stop _ _ h, List.cons_append, List.nil_append, dec, if_neg (by rw [ht]; omega), if_neg (by rw [ht]; omega), if_pos (by rw [ht]; omega), ht, Nat.mod_eq_of_lt (by omega)]
    · have ht := toNat_ofNat (v % 128 + 128) (by omega)
      rw [enc_step _ _ h, List.cons_append, dec, if_neg (by rw [ht]; omega), if_neg (by rw [ht]; omega), if_neg (by rw [ht]; omega), ht]
      have hlt : v / 128 < 2 * 128 ^ k := by
        rw [Nat.pow_succ] at hv
        exact Nat.div_lt_of_lt_mul (by rw [Nat.mul_comm 128, Nat.mul_assoc]; exact hv)
      rw [ih (i + 1) _ (v / 128) (by omega) hlt (by omega)]
      have e1 : (v % 128 + 128) % 128 = v % 128 := by omega
      rw [e1, Nat.pow_succ]
      congr 1
      have e2 : v = 128 * (v / 128) + v % 128 := (Nat.div_add_mod v 128).symm
      generalize v / 128 = q at *
      generalize v % 128 = r at *
      subst e2
      generalize 128 ^ i = p
      rw [Nat.add_mul, Nat.add_assoc, Nat.add_comm (r * p), Nat.mul_comm p 128, ← Nat.mul_assoc, Nat.mul_comm q 128]

theorem takeU_enc (v : Nat) (h : v < two64) (t : List UInt8) : takeU (encU v ++ t) = (v, t, 0) := by
  have := dec_enc t 9 0 0 v rfl (by unfold two64 at h; omega) (by omega)
  simpa [takeU, encU] using this

theorem enc_inj (u v : Nat) (hu : u < two64) (hv : v < two64) (h : encU u = encU v) : u = v := by
  have h1 := takeU_enc u hu []
  have h2 := takeU_enc v hv []
  rw [h, h2] at h1
  exact (congrArg Prod.fst h1).symm

/-- Lesser numbers have no more bytes. -/
theorem enc_mono (k : Nat) : ∀ u v, u ≤ v → (enc k u).length ≤ (enc k v).length := by
  induction k with
  | zero => intro u v _; simp [enc]
  | succ k ih =>
    intro u v h
    by_cases hu : u < 128
    · rw [enc_stop _ _ hu]
      have := (enc_len (k + 1) v).1
      simpa using this
    · rw [enc_step _ _ hu, enc_step _ _ (by omega)]
      have := ih (u / 128) (v / 128) (Nat.div_le_div_right h)
      simp only [List.length_cons]
      omega

/-- Of bytes that are a number: the bytes are its. -/
theorem dec_one (l : List UInt8) : ∀ (k i acc v : Nat) (r : List UInt8), i + k = 9 → dec i acc l = (v, r, 0) → ∃ u, v = acc + u * 128 ^ i ∧ enc k u ++ r = l ∧ u < 2 * 128 ^ k ∧ (0 < i → 0 < u) := by
  induction l with
  | nil => intro k i acc v r _ h; simp [dec] at h
  | cons c l ih =>
    intro k i acc v r hi h
    have hc := c.toNat_lt
    rw [dec] at h
    split at h
    · simp at h
    · split at h
      · simp at h
      · split at h
        · rename_i g1 g2 g3
          simp only [Prod.mk.injEq] at h
          obtain ⟨rfl, rfl, _⟩ := h
          refine ⟨c.toNat, by rw [Nat.mod_eq_of_lt g3], ?_, ?_, by omega⟩
          · rw [enc_stop _ _ g3, UInt8.ofNat_toNat]; rfl
          · cases k with
            | zero => have : i = 9 := by omega
                      simp; omega
            | succ k => rw [Nat.pow_succ]; have := Nat.pow_pos (n := k) (show 0 < 128 by decide); omega
        · rename_i g1 g2 g3
          have hik : i ≠ 9 := by intro e; apply g1; exact ⟨e, by omega⟩
          obtain ⟨k, rfl⟩ : ∃ k', k = k' + 1 := ⟨k - 1, by omega⟩
          obtain ⟨u, e1, e2, e3, e4⟩ := ih k (i + 1) _ v r (by omega) h
          have hu := e4 (by omega)
          refine ⟨128 * u + c.toNat % 128, ?_, ?_, ?_, by omega⟩
          · rw [e1, Nat.pow_succ, Nat.add_mul]
            generalize 128 ^ i = p
            rw [Nat.mul_comm p 128, ← Nat.mul_assoc, Nat.mul_comm u 128]
            omega
          · rw [enc_step _ _ (by omega)]
            have a1 : (128 * u + c.toNat % 128) % 128 + 128 = c.toNat := by omega
            have a2 : (128 * u + c.toNat % 128) / 128 = u := by omega
            rw [a1, a2, UInt8.ofNat_toNat, List.cons_append, e2]
          · rw [Nat.pow_succ]; omega

theorem takeU_one (l r : List UInt8) (v : Nat) (h : takeU l = (v, r, 0)) : encU v ++ r = l ∧ v < two64 := by
  obtain ⟨u, e1, e2, e3, _⟩ := dec_one l 9 0 0 v r rfl h
  have : v = u := by simpa using e1
  subst this
  exact ⟨e2, by unfold two64; omega⟩

/-- Its parts. -/
theorem dec_err (l : List UInt8) : ∀ (i acc : Nat), (dec i acc l).2.2 ≠ 0 → (dec i acc l).1 = 0 ∧ (dec i acc l).2.1 = [] := by
  induction l with
  | nil => intro i acc _; simp [dec]
  | cons c l ih =>
    intro i acc
    rw [dec]
    split
    · simp
    · split
      · simp
      · split
        · simp
        · exact ih _ _
theorem dec_errs (l : List UInt8) : ∀ (i acc : Nat), (dec i acc l).2.2 = 0 ∨ (dec i acc l).2.2 = 2 ∨ (dec i acc l).2.2 = 3 := by
  induction l with
  | nil => intro i acc; simp [dec]
  | cons c l ih =>
    intro i acc
    rw [dec]
    split
    · simp
    · split
      · simp
      · split
        · simp
        · exact ih _ _
theorem takeU_lt (l : List UInt8) : (takeU l).1 < two64 := by
  by_cases h : (takeU l).2.2 = 0
  · exact (takeU_one l (takeU l).2.1 (takeU l).1 (by rw [← h])).2
  · have := (dec_err l 0 0 h).1; unfold takeU; rw [this]; decide
theorem dec_left (l : List UInt8) : ∀ (i acc : Nat), (dec i acc l).2.1.length ≤ l.length := by
  induction l with
  | nil => intro i acc; simp [dec]
  | cons c l ih =>
    intro i acc
    rw [dec]
    split
    · simp
    · split
      · simp
      · split
        · simp
        · have := ih (i + 1) (acc + c.toNat % 128 * 128 ^ i); simp only [List.length_cons]; omega

/-- Bytes of a number that are cut off end too soon. -/
theorem dec_cut : ∀ (k i acc v cut : Nat), i + k = 9 → (0 < i → 0 < v) → cut < (enc k v).length → dec i acc ((enc k v).take cut) = (0, [], 2) := by
  intro k
  induction k with
  | zero =>
    intro i acc v cut _ _ h
    have : cut = 0 := by simp [enc] at h; omega
    subst this; rfl
  | succ k ih =>
    intro i acc v cut hi h0 h
    by_cases hv : v < 128
    · rw [enc_stop _ _ hv] at h ⊢
      have : cut = 0 := by simp at h; omega
      subst this; rfl
    · rw [enc_step _ _ hv] at h ⊢
      cases cut with
      | zero => rfl
      | succ cut =>
        have ht := toNat_ofNat (v % 128 + 128) (by omega)
        rw [List.take_succ_cons, dec, if_neg (by rw [ht]; omega), if_neg (by rw [ht]; omega), if_neg (by rw [ht]; omega)]
        exact ih _ _ _ _ (by omega) (by omega) (by simpa using h)
theorem takeU_cut (v cut : Nat) (h : cut < (encU v).length) : takeU ((encU v).take cut) = (0, [], 2) := dec_cut 9 0 0 v cut rfl (by omega) h

/-- The number, of at most so much. -/
def takeM (l : List UInt8) (most : Int) : Nat × List UInt8 × Nat :=
  if (takeU l).2.2 ≠ 0 then (0, [], (takeU l).2.2)
  else if (takeU l).1 > (max most 0).toNat then (0, [], 16)
  else takeU l
/-- The text, what is left, the error. -/
def takeT (l : List UInt8) (most : Int) : List UInt8 × List UInt8 × Nat :=
  if (takeM l most).2.2 ≠ 0 then ([], [], (takeM l most).2.2)
  else if (takeM l most).1 > (takeM l most).2.1.length then ([], [], 2)
  else ((takeM l most).2.1.take (takeM l most).1, (takeM l most).2.1.drop (takeM l most).1, 0)
/-- A text's bytes. -/
def encT (s : List UInt8) : List UInt8 := encU s.length ++ s

theorem takeT_enc (s t : List UInt8) (most : Int) (h : (s.length : Int) ≤ most) (hl : s.length < two64) : takeT (encT s ++ t) most = (s, t, 0) := by
  have h1 : takeU (encT s ++ t) = (s.length, s ++ t, 0) := by rw [encT, List.append_assoc]; exact takeU_enc _ hl _
  have h2 : takeM (encT s ++ t) most = (s.length, s ++ t, 0) := by
    unfold takeM
    rw [h1, if_neg (by simp), if_neg (by simp; omega)]
  unfold takeT
  rw [h2, if_neg (by simp), if_neg (by simp)]
  simp

theorem takeT_cut (s : List UInt8) (most : Int) (cut : Nat) (h : (s.length : Int) ≤ most) (hl : s.length < two64) (hc : cut < (encT s).length) : (takeT ((encT s).take cut) most).2.2 = 2 := by
  by_cases hcut : cut < (encU s.length).length
  · have h1 : takeU ((encT s).take cut) = (0, [], 2) := by
      rw [encT, List.take_append_of_le_length (by omega)]; exact takeU_cut _ _ hcut
    have h2 : takeM ((encT s).take cut) most = (0, [], 2) := by
      unfold takeM; rw [h1, if_pos (by simp)]
    unfold takeT
    rw [h2, if_pos (by simp)]
  · have h1 : takeU ((encT s).take cut) = (s.length, s.take (cut - (encU s.length).length), 0) := by
      rw [encT, List.take_append, List.take_of_length_le (by omega)]; exact takeU_enc _ hl _
    have h2 : takeM ((encT s).take cut) most = (s.length, s.take (cut - (encU s.length).length), 0) := by
      unfold takeM
      rw [h1, if_neg (by simp), if_neg (by simp; omega)]
    unfold takeT
    rw [h2, if_neg (by simp), if_pos]
    simp only [List.length_take]
    simp only [encT, List.length_append] at hc
    omega
end Go.Proofs.YtefhnjepocbodaaGreatDoor.Leb

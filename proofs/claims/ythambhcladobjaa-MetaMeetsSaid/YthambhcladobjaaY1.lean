/- Layer 1's writers, and the document's, walked. -/
import Derived.Test.YthambhcladobjaaY0
namespace Go.Proofs.Ythambhcladobjaa
set_option maxRecDepth 100000
open Go.RowKit Go.Lib

/-- The answer is the slice, longer by xs. -/
def Wrote (base : Nat) (w : World) (b : Value) (n : Nat) (l : List Value) (xs : List UInt8) (e : Ending) (w' : World) : Prop :=
  ∃ v', e = .returned v' ∧ Ext base 1 w b n l w' v' (n + xs.length) (l ++ cb xs)

theorem or128 (u : Nat) : bits BinOp.or IntKind.u8 ((u : Int) % 256) 128 = (((UInt8.ofNat (u % 128 + 128)).toNat : Nat) : Int) := by
  have h : ∀ m, m < 256 → m ||| 128 = m % 128 + 128 := by decide +kernel
  have e1 : (u : Int) % 256 = ((u % 256 : Nat) : Int) := by omega
  rw [e1, show (128 : Int) = ((128 : Nat) : Int) from rfl, u8_or_nat _ _ (by omega) (by omega), h _ (by omega), Leb.toNat_ofNat _ (by omega)]
  omega

theorem Ext.snoc {base : Nat} {w w1 w2 : World} {b v v' : Value} {n : Nat} {l : List Value} {acc : List UInt8} {c : UInt8} {x : Int} {o : Obj} (h : Ext base 1 w b n l w1 v (n + acc.length) (l ++ cb acc))
    (k : Ext base 1 (w1.alloc o) v (n + acc.length) (l ++ cb acc) w2 v' (n + acc.length + 1) (l ++ cb acc ++ [.int .u8 x])) (hx : x = (c.toNat : Int)) :
    Ext base 1 w b n l w2 v' (n + (acc ++ [c]).length) (l ++ cb (acc ++ [c])) := by
  subst hx
  have := (h.alloc o).trans k
  simpa [cb, Nat.add_assoc] using this

theorem uint_any (base : Nat) (b : Value) (n : Nat) (l : List Value) (v : Nat) (w : World) (hv : v < Leb.two64) (hown : Sl w base 1 b n l) (hn : n ≤ 140737488355000) (hb : base ≤ w.heap.size) :
    Calls Try.prog 52 #[b, .int .u64 v] w (Wrote base w b n l (Leb.encU v)) := by
  obtain ⟨i0, hi, hz0, hz1, hz2⟩ := info_parts bi_u8
  have Hz := Lib.hid hz0; have Hs := Lib.hid hz1; have Hb := Lib.hid hz2; have Hi := Lib.hid hi
  clear hz0 hz1 hz2 hi
  have hv' : v < 18446744073709551616 := hv
  go_enter Try.func52, Try.ntmps52
  go_wp2
  go_loopw [0, 1] (fun b' v' wr => ∃ (acc : List UInt8) (u : Nat), v' = .int .u64 u ∧ Hid (u = v / 128 ^ acc.length) ∧ Ext base 1 w b n l wr b' (n + acc.length) (l ++ cb acc) ∧ Hid (acc ++ Leb.enc (9 - acc.length) u = Leb.encU v) ∧ acc.length ≤ 9) (fun _ v' _ => (intOf v').toNat)
  case atStart => exact ⟨[], v, rfl, by simp [Hid], by simpa [cb] using Ext.refl hown, rfl, by simp⟩
  case round =>
    obtain ⟨acc, u, rfl, hu, hext, hacc, hlen⟩ := hrel
    have hmax : n + acc.length + 1 ≤ maxLen := by unfold maxLen; omega
    have hsz := hext.grown.size
    have hub : u < 18446744073709551616 := by rw [hu.out]; exact Nat.lt_of_le_of_lt (Nat.div_le_self _ _) hv'
    by_cases h : u < 128
    · go_wp2_with (at_builtin; refine wpList_append_sl _ rfl _ _ 109 rfl base 5 i0 (.int .u8 0) 1 1 Try.underlying109 Hi.out Hz.out Hs.out Hb.out rfl (by decide) _ _ _ rfl (hext.now.alloc _) ⟨wr.heap.size, 0, none⟩ 1 1 [_] rfl rfl (cell_one_new _ _ _) (by simp [Value.oneCell']) hmax (by omega) (by simp; omega) ?_; intro v' w1 hx)
      have hx' := hext.snoc (c := UInt8.ofNat u) hx (by rw [Leb.toNat_ofNat _ (by omega)])
      go_ret
      refine ⟨v', rfl, ?_⟩
      have he := hacc.out
      rw [Leb.enc_stop _ _ h] at he
      rw [← he]
      exact hx'
    · go_wp2_with (at_builtin; refine wpList_append_sl _ rfl _ _ 109 rfl base 5 i0 (.int .u8 0) 1 1 Try.underlying109 Hi.out Hz.out Hs.out Hb.out rfl (by decide) _ _ _ rfl (hext.now.alloc _) ⟨wr.heap.size, 0, none⟩ 1 1 [_] rfl rfl (cell_one_new _ _ _) (by simp [Value.oneCell']) hmax (by omega) (by simp; omega) ?_; intro v' w1 hx)
      have hx' := hext.snoc (c := UInt8.ofNat (u % 128 + 128)) hx (or128 u)
      have h8 : acc.length < 9 := by
        rcases Nat.lt_or_ge acc.length 9 with h9 | h9
        · exact h9
        · have e9 : acc.length = 9 := by omega
          have := hu.out
          rw [e9] at this
          omega
      refine ⟨⟨acc ++ [UInt8.ofNat (u % 128 + 128)], u / 128, by go_num, ?_, hx', ?_, by simp; omega⟩, by simp [intOf]; omega⟩
      · show u / 128 = _
        rw [hu.out, Nat.div_div_eq_div_mul, List.length_append, List.length_singleton, Nat.pow_succ]
      · have he := hacc.out
        rw [show 9 - acc.length = (9 - (acc ++ [UInt8.ofNat (u % 128 + 128)]).length) + 1 by simp; omega, Leb.enc_step _ _ h] at he
        show _ = _
        rw [← he]
        simp

theorem text_any (base : Nat) (b : Value) (n : Nat) (l : List Value) (s : ByteArray) (w : World) (hs : n + s.size ≤ 140737488355000) (hown : Sl w base 1 b n l) (hb : base ≤ w.heap.size) :
    Calls Try.prog 51 #[b, .string s] w (Wrote base w b n l (Leb.encT s.data.toList)) := by
  obtain ⟨i0, hi, hz0, hz1, hz2⟩ := info_parts bi_u8
  have Hz := Lib.hid hz0; have Hs := Lib.hid hz1; have Hb := Lib.hid hz2; have Hi := Lib.hid hi
  clear hz0 hz1 hz2 hi
  have hlen := Leb.encU_len s.size
  have hmax : n + (Leb.encU s.size).length + s.size ≤ maxLen := by unfold maxLen; omega
  go_enter Try.func51, Try.ntmps51
  go_wp2_with (first | (go_at_call 52; refine (uint_any base b n l s.size _ (by unfold Leb.two64; omega) hown (by omega) hb).mono ?_; rintro e w1 ⟨v1, rfl, hx⟩; have hsz := hx.grown.size) | (at_builtin; refine wpList_append_sl_string _ rfl _ _ 109 9 rfl base 5 i0 Try.underlying109 Try.underlying9 Hi.out Hz.out Hs.out Hb.out _ _ _ rfl hx.now s rfl hmax (by omega) (by omega) ?_; intro v2 w2 hy))
  go_ret
  refine ⟨v2, rfl, ?_⟩
  have := hx.trans hy
  have e1 : n + (Leb.encT s.data.toList).length = n + (Leb.encU s.size).length + s.size := by
    rw [Leb.encT, List.length_append, ← Nat.add_assoc]; rfl
  have e2 : l ++ cb (Leb.encT s.data.toList) = l ++ cb (Leb.encU s.size) ++ strCells s := by
    rw [Leb.encT, cb_append, List.append_assoc]; rfl
  rw [e1, e2]
  exact this


/-- 'string([]byte{x})'. -/
theorem run_text_lit (W : World) (x : Int) (c : UInt8) (hx : x = (c.toNat : Int)) :
    (convert 109 9 (.slice (some ⟨W.heap.size, 0, none⟩) 1 1)).run Try.prog (W.alloc (.cells #[.int .u8 x] 5)) = .ok (.string (bs [c])) (W.alloc (.cells #[.int .u8 x] 5)) := by
  subst hx
  refine run_convert_bytes_back _ 109 9 5 ⟨W.heap.size, 0, none⟩ 1 [c] Try.underlying109 Try.underlying5 Try.underlying9 fun j hj => ?_
  have : j = 0 := by simp at hj; omega
  subst this
  exact cell_one_new _ _ _ 0 _ rfl
#print axioms text_any
end Go.Proofs.Ythambhcladobjaa

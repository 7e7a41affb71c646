/- Layer 2's All, and the statements' own functions on records, walked. -/
import Derived.Test.YtajkleknjjpldaaDoorMZ4
import Derived.Test.YtajkleknjjpldaaDoorMFrM2
namespace Go.Proofs.YtajkleknjjpldaaDoor
open Go.RowKit Go.Lib

theorem bi_rec : (Tryd.prog.info? 34).map (fun i => (i.zero, i.size, i.bytes)) = some (some (.agg #[.int .u8 0, .string ⟨#[]⟩]), 2, 24) := by kernel_rfl

/-- The cells of records. -/
def rc (rs : List Fr.Rc) : List Value := rs.flatMap fun r => [.int .u8 r.1.toNat, .string (bs r.2)]
theorem rc_append (a b : List Fr.Rc) : rc (a ++ b) = rc a ++ rc b := by simp [rc]
theorem rc_length (a : List Fr.Rc) : (rc a).length = a.length * 2 := by
  induction a with
  | nil => rfl
  | cons x a ih => simp [rc] at ih ⊢; omega
theorem rc_one (k : UInt8) (d : List UInt8) : rc [(k, d)] = [.int .u8 k.toNat, .string (bs d)] := rfl

def strOf : Value → Nat | .string s => s.size | _ => 0

theorem cells2 (w : World) (G : Nat) (x y : Value) (t : TypeId) (hG : w.heap.size = G) : ∀ j u, [x, y][j]? = some u → (w.alloc (.cells #[x, y] t)).cell? ((⟨G, 0, none⟩ : Addr).add j) = some u := by
  subst hG
  intro j u hu
  rw [Addr.add_lit, cell_of_row _ _ (0 + j) _ _ _ (heap_alloc_new w _), Nat.zero_add]
  simpa using hu

/-- The answer: records, a number. -/
def Alld (w : World) (rs : List Fr.Rc) (n : Int) (e : Ending) (w' : World) : Prop :=
  ∃ v', e = .returned (.tuple #[v', .int .i64 n]) ∧ Sl w' w.heap.size 2 v' rs.length (rc rs) ∧ Below w.heap.size w w'

set_option maxRecDepth 100000 in
theorem all_any (s : List UInt8) (w : World) (hs : s.length ≤ 1000000) :
    Calls Tryd.prog 17 #[.string (bs s)] w (Alld w (Fr.all s).1 ((s.length : Int) - (Fr.all s).2.length)) := by
  obtain ⟨i0, hi, hz0, hz1, hz2⟩ := info_parts bi_rec
  have Hz := Lib.hid hz0; have Hs := Lib.hid hz1; have Hb := Lib.hid hz2; have Hi := Lib.hid hi
  clear hz0 hz1 hz2 hi
  go_enter Tryd.func17, Tryd.ntmps17
  go_wp2
  go_loopw [4, 5] (fun l' s' wr => ∃ (rs : List Fr.Rc) (ls : List UInt8), s' = .string (bs ls) ∧ Sl wr w.heap.size 2 l' rs.length (rc rs) ∧ Below w.heap.size w wr ∧ ls.length + rs.length ≤ s.length ∧ Hid (Fr.all s = (rs ++ (Fr.all ls).1, (Fr.all ls).2))) (fun _ s' _ => strOf s')
  case atStart => exact ⟨[], s, rfl, Sl.nil _ _ _, Below.refl _ _, by simp, rfl⟩
  case round =>
    obtain ⟨rs, ls, rfl, hown, hbel, hlen, hall⟩ := hrel
    obtain ⟨k, d, rest, er, hn⟩ : ∃ k d rest er, Fr.next ls = ((k, d), rest, er) := ⟨_, _, _, _, rfl⟩
    have HN := Lib.hid (show nextV (Fr.next ls) = .tuple #[.agg #[.int .u8 k.toNat, .string (bs d)], .string (bs rest), .int .i64 er] by rw [hn]; rfl)
    by_cases he : er = 0
    · subst he
      have hl := Fr.next_left ls (by rw [hn])
      rw [hn] at hl
      have hl' : rest.length < ls.length := hl
      have HS := Lib.hid (Fr.all_step hn)
      clear hn hl
      go_wp2_with (first
        | (go_at_call 29; refine (next_any ls _ (by omega)).mono ?_; rintro e w1 ⟨rfl, b1⟩; rw [HN.out]; have z1 := b1.size; have z2 := hbel.size)
        | (at_builtin; refine wpList_append_sl _ rfl (.tmp 24) (.tmp 26) 54 rfl w.heap.size 34 i0 _ 2 24 Tryd.underlying54 Hi.out Hz.out Hs.out Hb.out rfl (by decide) _ rs.length (rc rs) rfl (((hown.on b1).alloc _).alloc _) ⟨w1.heap.size + 1, 0, none⟩ 1 1 [.int .u8 k.toNat, .string (bs d)] rfl rfl (cells2 _ _ _ _ _ (by simp)) (by simp [Value.oneCell']) (by unfold maxLen; omega) (by omega) (by simp; omega) ?_; intro v2 w2 x2))
      have hx := x2.now
      have e1 : rc rs ++ [.int .u8 k.toNat, .string (bs d)] = rc (rs ++ [(k, d)]) := by rw [rc_append, rc_one]
      rw [e1] at hx
      have hb2 : Below w.heap.size w w2 := (((below_step hbel b1).alloc (by omega) _).alloc (by simp; omega) _).trans (x2.below (Nat.le_refl _) (by simp; omega))
      have zb := bs_size ls
      have zr := bs_size rest
      refine ⟨⟨rs ++ [(k, d)], rest, rfl, by rw [List.length_append]; exact hx, hb2, by rw [List.length_append, List.length_singleton]; omega, ?_⟩, ?_⟩
      · show _ = _
        rw [hall.out, HS.out]
        simp
      · show (bs rest).size < (bs ls).size
        omega
    · have hst := Fr.all_stop (l := ls) (by rw [hn]; exact he)
      have ha := hall.out
      rw [hst, List.append_nil] at ha
      have HA := Lib.hid ha
      have h1 : (bs ls).size ≤ (bs s).size := by rw [bs_size, bs_size]; omega
      have e1 := bs_size s
      have e2 := bs_size ls
      have E1 := Lib.hid e1; have E2 := Lib.hid e2
      have h2 : (bs s).size ≤ 1000000 := by omega
      clear hn hst ha e1 e2
      go_wp2_with (go_at_call 29; refine (next_any ls _ (by omega)).mono ?_; rintro e w1 ⟨rfl, b1⟩; rw [HN.out])
      go_ret2
      have z1 := b1.size
      have z2 := hbel.size
      have hf : Alld w rs ((s.length : Int) - ls.length) (.returned (.tuple #[u4, .int .i64 ((bs s).size - (bs ls).size)])) (w1.alloc (.cells #[.int .u8 k.toNat, .string (bs d)] 34)) :=
        ⟨u4, by rw [E1.out, E2.out], (hown.on b1).alloc _, (below_step hbel b1).alloc (by omega) _⟩
      rw [HA.out]
      exact hf
end Go.Proofs.YtajkleknjjpldaaDoor

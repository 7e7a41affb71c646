/- Layer 6: the first known answers. -/
import Derived.Test.YtmgnmppdeiflbaaDoorL9
namespace Go.Proofs.YtmgnmppdeiflbaaDoor
open Go.RowKit Go.Lib

def setOf (w : World) (v : Value) (ds : List Pr) : Prop := Rd w 2 v ds.length (prc ds)
set_option maxHeartbeats 1000000 in
set_option maxRecDepth 100000 in
theorem lawake_any (w : World) : Calls Tryd.prog 10 #[] w fun e w' => e = .returned (.bool true) ∧ Below w.heap.size w w' := by
  have hT := bs_toList
  have k1 : ByteArray.mk #[98, 61, 50, 44, 97, 61, 49] = bs [98, 61, 50, 44, 97, 61, 49] := rfl
  have k2 : ByteArray.mk #[97, 61, 49, 44, 97, 61, 50] = bs [97, 61, 49, 44, 97, 61, 50] := rfl
  have k3 : ByteArray.mk #[97] = bs [97] := rfl
  have k4 : ByteArray.mk #[97, 61, 49, 44, 98, 61, 50] = bs [97, 61, 49, 44, 98, 61, 50] := rfl
  have k5 : ByteArray.mk #[98] = bs [98] := rfl
  have k6 : ByteArray.mk #[50] = bs [50] := rfl
  have hs : sortP [⟨[98], [50]⟩, ⟨[97], [49]⟩] = [⟨[97], [49]⟩, ⟨[98], [50]⟩] := (sortP_of (List.Perm.swap _ _ _) (by unfold Rising; decide)).symm
  have hs2 : sortP [⟨[97], [49]⟩, ⟨[97], [50]⟩] = [⟨[97], [49]⟩, ⟨[97], [50]⟩] := (sortP_of (List.Perm.refl _) (by unfold Rising; decide)).symm
  have P1 := Lib.hid (fun W => show Calls Tryd.prog 21 #[.string (bs [98, 61, 50, 44, 97, 61, 49])] W (fun e w' => ∃ v, e = .returned (.tuple #[v, .int .i64 0]) ∧ Sl w' W.heap.size 2 v 2 (prc [⟨[97], [49]⟩, ⟨[98], [50]⟩]) ∧ Below W.heap.size W w') by
    refine (parse_lb [98, 61, 50, 44, 97, 61, 49] W (by decide)).mono ?_
    rintro e w' ⟨v, er, rfl, hb, hm⟩
    rw [show pairsL (parts 44 [98, 61, 50, 44, 97, 61, 49]) = some [⟨[98], [50]⟩, ⟨[97], [49]⟩] by decide] at hm
    simp only [hs] at hm
    rw [if_pos (by decide)] at hm
    obtain ⟨rfl, h2⟩ := hm
    exact ⟨v, rfl, h2, hb⟩)
  have P2 := Lib.hid (fun W => show Calls Tryd.prog 21 #[.string (bs [97, 61, 49, 44, 97, 61, 50])] W (fun e w' => e = .returned (.tuple #[.slice none 0 0, .int .i64 12]) ∧ Below W.heap.size W w') by
    refine (parse_lb [97, 61, 49, 44, 97, 61, 50] W (by decide)).mono ?_
    rintro e w' ⟨v, er, rfl, hb, hm⟩
    rw [show pairsL (parts 44 [97, 61, 49, 44, 97, 61, 50]) = some [⟨[97], [49]⟩, ⟨[97], [50]⟩] by decide] at hm
    simp only [hs2] at hm
    rw [if_neg (by decide)] at hm
    obtain ⟨rfl, rfl⟩ := hm
    exact ⟨rfl, hb⟩)
  have P3 := Lib.hid (fun W => show Calls Tryd.prog 21 #[.string (bs [97])] W (fun e w' => e = .returned (.tuple #[.slice none 0 0, .int .i64 3]) ∧ Below W.heap.size W w') by
    refine (parse_lb [97] W (by decide)).mono ?_
    rintro e w' ⟨v, er, rfl, hb, hm⟩
    rw [show pairsL (parts 44 [97]) = none by decide] at hm
    obtain ⟨rfl, rfl⟩ := hm
    exact ⟨rfl, hb⟩)
  have T := Lib.hid (fun v W (h : Rd W 2 v 2 (prc [⟨[97], [49]⟩, ⟨[98], [50]⟩])) => show Calls Tryd.prog 19 #[v] W (fun e w' => e = .returned (.string (bs [97, 61, 49, 44, 98, 61, 50])) ∧ Below W.heap.size W w') from string_lb v [⟨[97], [49]⟩, ⟨[98], [50]⟩] W h (by decide) (by decide))
  have G := Lib.hid (fun v W (h : Rd W 2 v 2 (prc [⟨[97], [49]⟩, ⟨[98], [50]⟩])) => show Calls Tryd.prog 15 #[v, .string (bs [98])] W (fun e w' => e = .returned (.string (bs [50])) ∧ Below W.heap.size W w') from get_lb v [⟨[97], [49]⟩, ⟨[98], [50]⟩] [98] W h (by decide))
  clear hs hs2
  go_enter Tryd.func10, Tryd.ntmps10
  go_wp2_with fail
  with_reducible refine (P1.out _).mono ?_
  rintro e w1 ⟨v, rfl, s1, b1⟩
  obtain ⟨va, vc, rfl⟩ := s1.slice
  go_wp2_with fail
  with_reducible refine (P2.out _).mono ?_
  rintro e w2 ⟨rfl, b2⟩
  go_wp2_with fail
  with_reducible refine (P3.out _).mono ?_
  rintro e w3 ⟨rfl, b3⟩
  have r3 := ((Rd.of_sl s1).on b2).on b3
  go_wp2_with fail
  refine (T.out _ _ r3).mono ?_
  rintro e w4 ⟨rfl, b4⟩
  have r4 := r3.on b4
  go_wp2_with fail
  refine (G.out _ _ r4).mono ?_
  rintro e w5 ⟨rfl, b5⟩
  go_wp2
  go_ret
  exact ⟨rfl, below_step (below_step (below_step (below_step b1 b2) b3) b4) b5⟩
end Go.Proofs.YtmgnmppdeiflbaaDoor

/- Layer 8: an object's name split; the first known answers; the statements IdentBack, IdentRises, IdentOne walked. -/
import Derived.Test.YtfdbhmdaiihmhaaI5
import Derived.Test.YtfdbhmdaiihmhaaCmp
namespace Go.Proofs.Ytfdbhmdaiihmhaa
open Go.RowKit Go.Lib

/-- What an object's name says. -/
def spl (l : List UInt8) : Option (List UInt8 × List UInt8) :=
  match cutL l 47 with
  | none => none
  | some (a, b) => if (pars a).isSome && isp b then some (a, b) else none
def splV : Option (List UInt8 × List UInt8) → Value
  | none => .tuple #[.string (bs []), .string (bs []), .bool false]
  | some (a, b) => .tuple #[.string (bs a), .string (bs b), .bool true]

set_option maxHeartbeats 1000000 in
set_option maxRecDepth 100000 in
theorem split_id (s : ByteArray) (w : World) (hs : s.size ≤ 4611686018427387904) :
    Calls Try.prog 26 #[.string s] w fun e w' => e = .returned (splV (spl s.data.toList)) ∧ ∃ n, w' = w.drewN n := by
  have k47 : ByteArray.mk #[47] = bs [47] := rfl
  have H := Lib.hid (fun W => show Calls Try.prog 65 #[.string s, .string ⟨#[47]⟩] W (fun e w' => e = .returned (cutV s (cutL s.data.toList 47)) ∧ ∃ n, w' = W.drewN n) from cut1_any s 47 W hs)
  clear k47
  obtain ⟨q, hq⟩ : ∃ q, q = spl s.data.toList := ⟨_, rfl⟩
  rw [← hq]
  unfold spl at hq
  obtain ⟨r, hr⟩ : ∃ r, r = cutL s.data.toList 47 := ⟨_, rfl⟩
  rw [← hr] at H hq
  clear hr
  cases r with
  | none =>
    unfold cutV at H
    subst hq
    have P := Lib.hid (fun W => show Calls Try.prog 24 #[.string s] W (fun e w' => e = .returned (parsV (pars s.data.toList)) ∧ W = w') from parse_any s W)
    have I := Lib.hid (fun W => show Calls Try.prog 66 #[.string (bs [])] W (fun e w' => e = .returned (.bool false) ∧ W = w') from ispart_any [] W)
    obtain ⟨p, hp⟩ : ∃ p, p = pars s.data.toList := ⟨_, rfl⟩
    rw [← hp] at P
    clear hp
    go_enter Try.func26, Try.ntmps26
    go_wp2_with fail
    with_reducible refine (H.out _).mono ?_
    rintro e w1 ⟨rfl, n, rfl⟩
    go_wp2_with fail
    with_reducible refine (P.out _).mono ?_
    rintro e w1 ⟨rfl, rfl⟩
    cases p with
    | none =>
      unfold parsV
      go_wp2
      go_ret3
      exact ⟨rfl, n, rfl⟩
    | some p =>
      unfold parsV
      go_wp2_with fail
      with_reducible refine (I.out _).mono ?_
      rintro e w1 ⟨rfl, rfl⟩
      go_wp2
      go_ret3
      exact ⟨rfl, n, rfl⟩
  | some ab =>
    obtain ⟨a, b⟩ := ab
    unfold cutV at H
    have P := Lib.hid (fun W => show Calls Try.prog 24 #[.string (bs a)] W (fun e w' => e = .returned (parsV (pars a)) ∧ W = w') from parse_any (bs a) W)
    have I := Lib.hid (fun W => show Calls Try.prog 66 #[.string (bs b)] W (fun e w' => e = .returned (.bool (isp b)) ∧ W = w') from ispart_any b W)
    obtain ⟨p, hp⟩ : ∃ p, p = pars a := ⟨_, rfl⟩
    obtain ⟨t, ht⟩ : ∃ t, t = isp b := ⟨_, rfl⟩
    have hq2 : q = if p.isSome && t then some (a, b) else none := by rw [hq, hp, ht]
    rw [← hp] at P
    rw [← ht] at I
    clear hp ht hq
    go_enter Try.func26, Try.ntmps26
    cases p with
    | none =>
      subst hq2
      unfold parsV at P
      go_wp2_with fail
      with_reducible refine (H.out _).mono ?_
      rintro e w1 ⟨rfl, n, rfl⟩
      go_wp2_with fail
      with_reducible refine (P.out _).mono ?_
      rintro e w1 ⟨rfl, rfl⟩
      go_wp2
      go_ret3
      exact ⟨rfl, n, rfl⟩
    | some p =>
      unfold parsV at P
      cases t with
      | false =>
        subst hq2
        go_wp2_with fail
        with_reducible refine (H.out _).mono ?_
        rintro e w1 ⟨rfl, n, rfl⟩
        go_wp2_with fail
        with_reducible refine (P.out _).mono ?_
        rintro e w1 ⟨rfl, rfl⟩
        go_wp2_with fail
        with_reducible refine (I.out _).mono ?_
        rintro e w1 ⟨rfl, rfl⟩
        go_wp2
        go_ret3
        exact ⟨rfl, n, rfl⟩
      | true =>
        subst hq2
        go_wp2_with fail
        with_reducible refine (H.out _).mono ?_
        rintro e w1 ⟨rfl, n, rfl⟩
        go_wp2_with fail
        with_reducible refine (P.out _).mono ?_
        rintro e w1 ⟨rfl, rfl⟩
        go_wp2_with fail
        with_reducible refine (I.out _).mono ?_
        rintro e w1 ⟨rfl, rfl⟩
        go_wp2
        go_ret3
        exact ⟨rfl, n, rfl⟩
end Go.Proofs.Ytfdbhmdaiihmhaa

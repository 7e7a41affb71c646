/- Layer 5: the fixed answers; BucketAgain; BucketParts. -/
import Derived.Test.YtfjihookoilnnaaG6
import Derived.Test.YtfjihookoilnnaaD13
namespace Go.Proofs.Ytfjihookoilnnaa
open Go.Conc Go.RowKit

theorem blooks (k f c m : Nat) (os : List Ob) (A : List Ft) (p : ByteArray) (w : World) (h : Bk k f c m os A w) (hfew : os.length ≤ 1000) :
    Calls Try.prog 16 #[.pointer (some ⟨k, 0, none⟩), .string p] w fun e w' => ∃ v ds, e = .returned v ∧
      ds.Perm (infsO p os) ∧ ds.Pairwise (fun x y => ¬ y.name.data.toList < x.name.data.toList) ∧ Sl w' w.heap.size 3 v ds.length (infc ds) ∧ Below w.heap.size w w' := by
  obtain ⟨ck, h⟩ := h
  exact looks_any k f c m os A ck p w h hfew
theorem blooks0 (k f c m : Nat) (A : List Ft) (p : ByteArray) (w : World) (h : Bk k f c m [] A w) :
    Calls Try.prog 16 #[.pointer (some ⟨k, 0, none⟩), .string p] w fun e w' => ∃ a cap, e = .returned (.slice a 0 cap) ∧ Below w.heap.size w w' := by
  refine (blooks k f c m [] A p w h (by simp)).mono ?_
  rintro e w' ⟨v, ds, rfl, hp, _, hs, b⟩
  have : ds = [] := by simpa [infsO] using hp
  subst this
  obtain ⟨a, cap, rfl⟩ := hs.slice
  exact ⟨a, cap, rfl, b⟩

set_option maxHeartbeats 1000000 in
set_option maxRecDepth 100000 in
theorem bawake_any (w : World) : Calls Try.prog 13 #[] w fun e w' => e = .returned (.bool true) ∧ Below w.heap.size w w' := by
  have HN := Lib.hid (bnew_home w)
  go_enter Try.func13, Try.ntmps13
  go_wp2_with fail
  refine HN.out.mono ?_
  rintro e w1 ⟨k, f, c, m, rfl, D1, hH, b1⟩
  have e1 := D1.c0
  clear HN
  have C1 := Lib.hid (bput_go w.heap.size k f c m [] [] ⟨#[97]⟩ ⟨#[120, 121, 122]⟩ 7 w1 D1 hH (by decide))
  go_wp2_with fail
  refine C1.out.mono ?_
  rintro e w2 ⟨he, ⟨clock, D2⟩, b2⟩
  rw [show (if (tryL []).1.1 = true then (0 : Int) else 8) = 0 from rfl] at he
  subst he
  change Bk k f c m [⟨⟨#[97]⟩, ⟨#[120, 121, 122]⟩, 7, clock⟩] [] w2 at D2
  have C2 := Lib.hid (brange w.heap.size k f c m _ _ ⟨#[97]⟩ 1 9 w2 D2 hH (by decide) (by decide))
  go_wp2_with fail
  refine C2.out.mono ?_
  rintro e w3 ⟨he, D3, b3⟩
  change e = .returned (.tuple #[.string ⟨#[121, 122]⟩, .int .i64 0]) at he
  subst he
  change Bk k f c m [⟨⟨#[97]⟩, ⟨#[120, 121, 122]⟩, 7, clock⟩] [] w3 at D3
  have e3 := D3.c0
  have C3 := Lib.hid (barm0 w.heap.size k f c m _ 0 true w3 D3 hH (by unfold Ft.Fits; decide))
  clear C1 C2 e1
  go_wp2_with fail
  refine C3.out.mono ?_
  rintro e w4 ⟨rfl, D4, b4⟩
  have C4 := Lib.hid (bdelete w.heap.size k f c m _ _ ⟨#[97]⟩ w4 D4 hH)
  clear C3
  go_wp2_with fail
  refine C4.out.mono ?_
  rintro e w5 ⟨he, D5, b5⟩
  rw [show (if (tryL [(max 0 0, true)]).1.1 = true then (0 : Int) else 8) = 8 from rfl] at he
  subst he
  change Bk k f c m [] [] w5 at D5
  have C5 := Lib.hid (bget w.heap.size k f c m _ _ ⟨#[97]⟩ w5 D5 hH)
  clear C4
  go_wp2_with fail
  refine C5.out.mono ?_
  rintro e w6 ⟨he, D6, b6⟩
  change e = .returned (.tuple #[.string ByteArray.empty, .int .i64 5]) at he
  subst he
  change Bk k f c m [] [] w6 at D6
  have C6 := Lib.hid (blooks0 k f c m _ ⟨#[]⟩ w6 D6)
  clear C5
  go_wp2_with fail
  refine C6.out.mono ?_
  rintro e w7 ⟨a, cap, rfl, b7⟩
  go_wp2
  go_ret
  exact ⟨rfl, (((((b1.trans b2).trans b3).trans b4).trans b5).trans b6).trans (b7.mono (by have := b1.size; have := b2.size; have := b3.size; have := b4.size; have := b5.size; have := b6.size; omega))⟩
end Go.Proofs.Ytfjihookoilnnaa

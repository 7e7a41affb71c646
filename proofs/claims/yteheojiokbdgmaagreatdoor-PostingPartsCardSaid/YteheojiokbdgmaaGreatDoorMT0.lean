/- Layer 12 in plain words: rising lists of numbers. No program's text. Layer 12: the document's lists of numbers, walked: In, Put, Less. Layer 12: the document's Put, walked. -/
import Derived.Test.YteheojiokbdgmaaGreatDoorMSl
import Derived.Test.YteheojiokbdgmaaGreatDoorMSl3
import Derived.Test.YteheojiokbdgmaaGreatDoorML4
namespace Go.Proofs.YteheojiokbdgmaaGreatDoor
open Go.RowKit Go.Lib

/-- Rising, each once. -/
def Up (l : List Int) : Prop := l.Pairwise (· < ·)
theorem up_nil : Up [] := List.Pairwise.nil
theorem up_unique : ∀ (a b : List Int), Up a → Up b → (∀ x, x ∈ a ↔ x ∈ b) → a = b
  | [], [], _, _, _ => rfl
  | [], y :: b, _, _, h => by have := (h y).2 (by simp); simp at this
  | x :: a, [], _, _, h => by have := (h x).1 (by simp); simp at this
  | x :: a, y :: b, ha, hb, h => by
    obtain ⟨a1, a2⟩ := List.pairwise_cons.1 ha
    obtain ⟨b1, b2⟩ := List.pairwise_cons.1 hb
    have hxy : x = y := by
      rcases List.mem_cons.1 ((h x).1 (by simp)) with e | m1
      · exact e
      · rcases List.mem_cons.1 ((h y).2 (by simp)) with e | m2
        · exact e.symm
        · have := b1 x m1; have := a1 y m2; omega
    subst hxy
    rw [up_unique a b a2 b2 fun z => ?_]
    constructor
    · intro hz
      rcases List.mem_cons.1 ((h z).1 (by simp [hz])) with e | m
      · have := a1 z hz; omega
      · exact m
    · intro hz
      rcases List.mem_cons.1 ((h z).2 (by simp [hz])) with e | m
      · have := b1 z hz; omega
      · exact m

/-- Ahead of the first greater one. -/
def insZ (n : Int) : List Int → List Int
  | [] => [n]
  | x :: l => if n < x then n :: x :: l else x :: insZ n l
/-- The document's Put. -/
def putZ (l : List Int) (n : Int) : List Int := if n ∈ l then l else insZ n l
theorem insZ_mem (n : Int) : ∀ l y, y ∈ insZ n l ↔ y = n ∨ y ∈ l
  | [], y => by simp [insZ]
  | x :: l, y => by
    unfold insZ
    split
    · simp
    · rw [List.mem_cons, insZ_mem n l y, List.mem_cons]
      constructor
      · rintro (h | h | h) <;> simp [h]
      · rintro (h | h | h) <;> simp [h]
theorem insZ_up (n : Int) : ∀ l, Up l → n ∉ l → Up (insZ n l)
  | [], _, _ => List.pairwise_singleton _ _
  | x :: l, h, hn => by
    obtain ⟨h1, h2⟩ := List.pairwise_cons.1 h
    have hx : x ≠ n := fun e => hn (by simp [e])
    unfold insZ
    split
    · rename_i hlt
      refine List.pairwise_cons.2 ⟨fun y hy => ?_, h⟩
      rcases List.mem_cons.1 hy with rfl | hy
      · exact hlt
      · have := h1 y hy; omega
    · rename_i hlt
      refine List.pairwise_cons.2 ⟨fun y hy => ?_, insZ_up n l h2 (fun e => hn (by simp [e]))⟩
      rcases (insZ_mem n l y).1 hy with rfl | hy
      · omega
      · exact h1 y hy
theorem insZ_len (n : Int) : ∀ l, (insZ n l).length = l.length + 1
  | [] => rfl
  | x :: l => by
    unfold insZ
    split
    · rfl
    · rw [List.length_cons, insZ_len n l]; rfl
theorem putZ_mem (l : List Int) (n y : Int) : y ∈ putZ l n ↔ y = n ∨ y ∈ l := by
  unfold putZ
  split
  · rename_i h
    constructor
    · exact fun h => .inr h
    · rintro (rfl | h')
      · exact h
      · exact h'
  · exact insZ_mem n l y
theorem putZ_up (l : List Int) (n : Int) (h : Up l) : Up (putZ l n) := by
  unfold putZ
  split
  · exact h
  · rename_i hn; exact insZ_up n l h hn
theorem putZ_len (l : List Int) (n : Int) : (putZ l n).length ≤ l.length + 1 := by
  unfold putZ
  split
  · omega
  · rw [insZ_len]; exact Nat.le_refl _

/-- The document's Any: of all numbers of all lists. -/
def anyZ (ls : List (List Int)) : List Int := ls.flatten.foldl putZ []
theorem foldP_mem : ∀ (l acc : List Int) (y : Int), y ∈ l.foldl putZ acc ↔ y ∈ acc ∨ y ∈ l
  | [], acc, y => by simp
  | n :: l, acc, y => by
    rw [List.foldl_cons, foldP_mem l, putZ_mem, List.mem_cons]
    constructor
    · rintro ((h | h) | h) <;> simp [h]
    · rintro (h | h | h) <;> simp [h]
theorem foldP_up : ∀ (l acc : List Int), Up acc → Up (l.foldl putZ acc)
  | [], _, h => h
  | n :: l, acc, h => by rw [List.foldl_cons]; exact foldP_up l _ (putZ_up acc n h)
theorem foldP_len : ∀ (l acc : List Int), (l.foldl putZ acc).length ≤ acc.length + l.length
  | [], acc => by simp
  | n :: l, acc => by
    rw [List.foldl_cons, List.length_cons]
    have := foldP_len l (putZ acc n)
    have := putZ_len acc n
    omega
theorem anyZ_mem (ls : List (List Int)) (y : Int) : y ∈ anyZ ls ↔ ∃ l ∈ ls, y ∈ l := by
  unfold anyZ
  rw [foldP_mem, List.mem_flatten]
  simp
theorem anyZ_up (ls : List (List Int)) : Up (anyZ ls) := foldP_up _ [] up_nil

/-- Those of a list that are in another one, or those that aren't. -/
def pickZ (l o : List Int) (b : Bool) : List Int := l.filter fun x => decide (x ∈ o) == b
theorem filter_up {l : List Int} (h : Up l) (f : Int → Bool) : Up (l.filter f) := h.sublist List.filter_sublist
theorem pickZ_up {l : List Int} (o : List Int) (b : Bool) (h : Up l) : Up (pickZ l o b) := filter_up h _
theorem pickZ_mem (l o : List Int) (b : Bool) (y : Int) : y ∈ pickZ l o b ↔ y ∈ l ∧ decide (y ∈ o) = b := by
  unfold pickZ; simp [List.mem_filter]
/-- What lies below a number asked for now plays no part any more. -/
theorem drop_less {o : List Int} (n : Int) : ∀ (k : Nat), (∀ j x, j < k → o[j]? = some x → x < n) → (n ∈ o ↔ n ∈ o.drop k)
  | 0, _ => by simp
  | k + 1, h => by
    rw [drop_less n k fun j x hj => h j x (by omega)]
    cases hk : o[k]? with
    | none =>
      have : o.length ≤ k := by
        rcases Nat.lt_or_ge k o.length with hlt | hge
        · rw [List.getElem?_eq_getElem hlt] at hk; cases hk
        · exact hge
      rw [List.drop_of_length_le this, List.drop_of_length_le (by omega)]
    | some x =>
      have hlt := (List.getElem?_eq_some_iff.1 hk).1
      have hx : o[k] = x := (List.getElem?_eq_some_iff.1 hk).2
      rw [List.drop_eq_getElem_cons hlt, List.mem_cons, hx]
      have := h k x (by omega) hk
      constructor
      · rintro (e | e)
        · omega
        · exact e
      · exact fun e => .inr e
/-- The first that isn't less is the number, or the number isn't there. -/
theorem head_is {o : List Int} (ho : Up o) (n : Int) (h : ∀ x, o.head? = some x → ¬ x < n) : n ∈ o ↔ o.head? = some n := by
  cases o with
  | nil => simp
  | cons x l =>
    have hx := h x rfl
    have h1 := (List.pairwise_cons.1 ho).1
    constructor
    · intro hm
      rcases List.mem_cons.1 hm with rfl | hm
      · rfl
      · have := h1 n hm; omega
    · intro e
      have : x = n := Option.some.inj e
      simp [this]
/-- In all lists. -/
def bothZ (ls : List (List Int)) : List Int := (anyZ ls).filter fun n => ls.all fun l => decide (n ∈ l)
theorem bothZ_mem (ls : List (List Int)) (y : Int) : y ∈ bothZ ls ↔ (∃ l ∈ ls, y ∈ l) ∧ ∀ l ∈ ls, y ∈ l := by
  unfold bothZ; rw [List.mem_filter, anyZ_mem]; simp
theorem bothZ_up (ls : List (List Int)) : Up (bothZ ls) := filter_up (anyZ_up ls) _
/-- One list behind the other: what the program's Both leaves. -/
def bothP : List (List Int) → List Int
  | [] => []
  | l :: ls => ls.foldl (fun acc o => pickZ acc o true) l
theorem bothP_go : ∀ (ls : List (List Int)) (acc : List Int), Up acc → Up (ls.foldl (fun acc o => pickZ acc o true) acc) ∧ ∀ y, y ∈ ls.foldl (fun acc o => pickZ acc o true) acc ↔ y ∈ acc ∧ ∀ l ∈ ls, y ∈ l
  | [], acc, h => ⟨h, fun y => by simp⟩
  | o :: ls, acc, h => by
    obtain ⟨h1, h2⟩ := bothP_go ls (pickZ acc o true) (pickZ_up o true h)
    refine ⟨h1, fun y => ?_⟩
    rw [List.foldl_cons, h2, pickZ_mem]
    simp [and_assoc]
theorem both_same (ls : List (List Int)) (h : ∀ l ∈ ls, Up l) : bothP ls = bothZ ls := by
  cases ls with
  | nil => rfl
  | cons l ls =>
    obtain ⟨h1, h2⟩ := bothP_go ls l (h l (by simp))
    refine up_unique _ _ h1 (bothZ_up _) fun y => ?_
    rw [bothZ_mem]
    refine (h2 y).trans ⟨fun ⟨a, b⟩ => ⟨⟨l, by simp, a⟩, fun o ho => ?_⟩, fun ⟨_, b⟩ => ⟨b l (by simp), fun o ho => b o (by simp [ho])⟩⟩
    rcases List.mem_cons.1 ho with rfl | ho
    · exact a
    · exact b o ho
/-- Equal neighbours once. -/
def oneZ : List Int → List Int
  | [] => []
  | [x] => [x]
  | x :: y :: l => if x = y then oneZ (y :: l) else x :: oneZ (y :: l)
theorem oneZ_mem : ∀ (l : List Int) (z : Int), z ∈ oneZ l ↔ z ∈ l
  | [], _ => by simp [oneZ]
  | [x], _ => by simp [oneZ]
  | x :: y :: l, z => by
    unfold oneZ
    split
    · rename_i e
      rw [oneZ_mem (y :: l) z, e]; simp
    · rw [List.mem_cons, oneZ_mem (y :: l) z]; simp
theorem oneZ_up : ∀ (l : List Int), l.Pairwise (· ≤ ·) → Up (oneZ l)
  | [], _ => up_nil
  | [x], _ => List.pairwise_singleton _ _
  | x :: y :: l, h => by
    obtain ⟨h1, h2⟩ := List.pairwise_cons.1 h
    unfold oneZ
    split
    · exact oneZ_up (y :: l) h2
    · rename_i hne
      refine List.pairwise_cons.2 ⟨fun z hz => ?_, oneZ_up (y :: l) h2⟩
      have hz := (oneZ_mem (y :: l) z).1 hz
      have hxy := h1 y (by simp)
      have hyz : y ≤ z := by
        rcases List.mem_cons.1 hz with rfl | hz
        · exact Int.le_refl _
        · exact (List.pairwise_cons.1 h2).1 z hz
      omega
/-- Sorted, each once, it is the document's Any. -/
theorem any_same (ls : List (List Int)) (l : List Int) (hp : l.Perm ls.flatten) (hs : l.Pairwise (· ≤ ·)) : oneZ l = anyZ ls := by
  refine up_unique _ _ (oneZ_up l hs) (anyZ_up ls) fun y => ?_
  rw [oneZ_mem, hp.mem_iff, anyZ_mem, List.mem_flatten]
end Go.Proofs.YteheojiokbdgmaaGreatDoor

namespace Go.Proofs.YteheojiokbdgmaaGreatDoor
open Go.RowKit Go.Lib

/-- The cells of numbers. -/
def ic (l : List Int) : List Value := l.map fun n => Value.int .i64 n
theorem ic_length (l : List Int) : (ic l).length = l.length := by simp [ic]
theorem ic_append (l m : List Int) : ic (l ++ m) = ic l ++ ic m := by simp [ic]
theorem ic_one (l : List Int) : ∀ v ∈ ic l, v.oneCell' = true := by
  intro v hv
  simp only [ic, List.mem_map] at hv
  obtain ⟨n, _, rfl⟩ := hv
  rfl
theorem ic_at (l : List Int) (i : Nat) (n : Int) (h : l[i]? = some n) : (ic l)[i]? = some (.int .i64 n) := by simp [ic, h]
theorem bi_int : (Tryz.prog.info? 3).map (fun i => (i.zero, i.size, i.bytes)) = some (some (.int .i64 0), 1, 8) := by kernel_rfl
/-- A list of numbers that is only read. -/
def Ns (w : World) (v : Value) (l : List Int) : Prop := Rd w 1 v l.length (ic l) ∧ l.length ≤ 100000
theorem Ns.on {w w' : World} {v : Value} {l : List Int} (h : Ns w v l) (b : Below w.heap.size w w') : Ns w' v l := ⟨h.1.on b, h.2⟩
theorem Ns.of_sl {w : World} {base : Nat} {v : Value} {l : List Int} (h : Sl w base 1 v l.length (ic l)) (hl : l.length ≤ 100000) : Ns w v l := ⟨Rd.of_sl h, hl⟩
/-- The answer is a list of these numbers, in new memory. -/
def NewN (w : World) (l : List Int) (e : Ending) (w' : World) : Prop := ∃ v, e = .returned v ∧ Sl w' w.heap.size 1 v l.length (ic l) ∧ Below w.heap.size w w'

set_option maxHeartbeats 1000000 in
set_option maxRecDepth 100000 in
theorem rin_any (v : Value) (l : List Int) (n : Int) (w : World) (h : Ns w v l) :
    Calls Tryz.prog 25 #[v, .int .i64 n] w fun e w' => e = .returned (.bool (decide (n ∈ l))) ∧ w = w' := by
  obtain ⟨⟨_, a, cap, g, off, rfl, hg, hc⟩, hl⟩ := h
  obtain ⟨N, hN⟩ : ∃ N, N = l.length := ⟨_, rfl⟩
  rw [← hN] at hg hc hl ⊢
  have HN := Lib.hid hN
  have HC := Lib.hid hc
  have HG := Lib.hid hg
  clear hN hc hg
  go_enter Tryz.func25, Tryz.ntmps25
  go_wp2_with fail
  go_loopw [9] (fun i' wr => ∃ (i : Nat), i' = .int .i64 i ∧ i ≤ N ∧ Hid (n ∉ l.take i) ∧ w = wr) (fun i' _ => N - (RowKit.intOf i').toNat)
  case atStart => exact ⟨0, rfl, by omega, by simp [Hid], rfl⟩
  case round =>
    obtain ⟨i, rfl, hi, hni, rfl⟩ := hrel
    have HNI := Lib.hid hni.out
    clear hni
    by_cases hlt : i < N
    · obtain ⟨rfl, hgl⟩ := HG.out (by omega)
      obtain ⟨x, hx⟩ : ∃ x, l[i]? = some x := ⟨l[i]'(by have := HN.out; omega), List.getElem?_eq_getElem (by have := HN.out; omega)⟩
      have c0 := (HC.out i (by omega)).trans (ic_at l i x hx)
      have HTK := Lib.hid (show l.take (i + 1) = l.take i ++ [x] by rw [List.take_add_one, hx]; rfl)
      have HM := Lib.hid (List.mem_of_getElem? hx)
      have hil : (i : Int) < N := by omega
      clear hx
      by_cases he : x = n
      · have e1 : (x == n) = true := by simpa using he
        have HQ := Lib.hid (show decide (n ∈ l) = true by rw [← he]; exact decide_eq_true HM.out)
        clear he
        go_wp2
        go_ret
        exact ⟨by rw [HQ.out]; rfl, rfl⟩
      · have e1 : (x == n) = false := by simpa using he
        have HQ := Lib.hid (show n ∉ l.take (i + 1) by
          rw [HTK.out]
          intro hm
          rcases List.mem_append.1 hm with hm | hm
          · exact HNI.out hm
          · exact he (List.mem_singleton.1 hm).symm)
        clear he
        go_wp2
        exact ⟨⟨i + 1, by simp, by omega, HQ, by trivial⟩, by simp [RowKit.intOf]; omega⟩
    · have hil : ¬ (i : Int) < N := by omega
      have HQ := Lib.hid (show decide (n ∈ l) = false by
        have := HNI.out
        rw [List.take_of_length_le (by have := HN.out; omega)] at this
        exact decide_eq_false this)
      go_wp2
      go_ret
      exact ⟨by rw [HQ.out]; rfl, rfl⟩

theorem lessZ_snoc (l o : List Int) (x : Int) : pickZ (l ++ [x]) o false = pickZ l o false ++ (if x ∈ o then [] else [x]) := by
  unfold pickZ
  rw [List.filter_append]
  congr 1
  by_cases h : x ∈ o <;> simp [h]

end Go.Proofs.YteheojiokbdgmaaGreatDoor

namespace Go.Proofs.YteheojiokbdgmaaGreatDoor
open Go.RowKit Go.Lib

/-- The loop that puts one more in: is it in, what is laid out. -/
def stepN (n : Int) (r : Bool × List Int) (x : Int) : Bool × List Int := if r.1 = false ∧ n < x then (true, r.2 ++ [n, x]) else (r.1, r.2 ++ [x])
def putF (n : Int) (b : Bool) (l : List Int) : Bool × List Int := l.foldl (stepN n) (b, [])
theorem putF_snoc (n : Int) (b : Bool) (l : List Int) (x : Int) : putF n b (l ++ [x]) = stepN n (putF n b l) x := by simp [putF, List.foldl_append]
theorem putF_in (n : Int) : ∀ (l acc : List Int), l.foldl (stepN n) (true, acc) = (true, acc ++ l)
  | [], acc => by simp
  | x :: r, acc => by rw [List.foldl_cons, stepN, if_neg (by simp), putF_in n r]; simp
theorem putF_go (n : Int) : ∀ (l acc : List Int), (if (l.foldl (stepN n) (false, acc)).1 = true then (l.foldl (stepN n) (false, acc)).2 else (l.foldl (stepN n) (false, acc)).2 ++ [n]) = acc ++ insZ n l
  | [], acc => by simp [insZ]
  | x :: r, acc => by
    rw [List.foldl_cons]
    by_cases h : n < x
    · have e : stepN n (false, acc) x = (true, acc ++ [n, x]) := by unfold stepN; rw [if_pos ⟨rfl, h⟩]
      rw [e, putF_in n r, insZ, if_pos h]; simp
    · have e : stepN n (false, acc) x = (false, acc ++ [x]) := by unfold stepN; rw [if_neg (by simp [h])]
      rw [e, putF_go n r, insZ, if_neg h]; simp
theorem putF_is (n : Int) (l : List Int) : (if (putF n (decide (n ∈ l)) l).1 = true then (putF n (decide (n ∈ l)) l).2 else (putF n (decide (n ∈ l)) l).2 ++ [n]) = putZ l n := by
  unfold putZ
  by_cases h : n ∈ l
  · rw [if_pos h, decide_eq_true h, putF, putF_in n l]; simp
  · rw [if_neg h, decide_eq_false h]
    have := putF_go n l []
    rw [List.nil_append] at this
    exact this

set_option maxHeartbeats 2000000 in
set_option maxRecDepth 100000 in
theorem rput_any (v : Value) (l : List Int) (n : Int) (w : World) (h : Ns w v l) :
    Calls Tryz.prog 7 #[v, .int .i64 n] w (NewN w (putZ l n)) := by
  obtain ⟨i0, hi, hz0, hz1, hz2⟩ := info_parts bi_int
  have Hz := Lib.hid hz0; have Hs := Lib.hid hz1; have Hb := Lib.hid hz2; have Hi := Lib.hid hi
  clear hz0 hz1 hz2 hi
  obtain ⟨b0, hb0⟩ : ∃ b0, b0 = decide (n ∈ l) := ⟨_, rfl⟩
  have RI := Lib.hid (fun W (b : Below w.heap.size w W) => show Calls Tryz.prog 25 #[v, .int .i64 n] W (fun e w' => e = .returned (.bool b0) ∧ W = w') by rw [hb0]; exact rin_any v l n W (h.on b))
  have HPF := Lib.hid (show (if (putF n b0 l).1 = true then (putF n b0 l).2 else (putF n b0 l).2 ++ [n]) = putZ l n by rw [hb0]; exact putF_is n l)
  obtain ⟨⟨_, a, cap, g, off, rfl, hg, hc⟩, hl⟩ := h
  obtain ⟨N, hN⟩ : ∃ N, N = l.length := ⟨_, rfl⟩
  rw [← hN] at hg hc hl RI
  rw [← hN]
  have HN := Lib.hid hN
  have HC := Lib.hid hc
  have HG := Lib.hid hg
  have B1 := Lib.hid (show Below w.heap.size w (w.alloc (.cells #[] 3)) from (Below.refl _ _).alloc (Nat.le_refl _) _)
  clear hN hc hg hb0
  go_enter Tryz.func7, Tryz.ntmps7
  go_wp2_with fail
  refine (RI.out _ B1.out).mono ?_
  rintro e _ ⟨rfl, rfl⟩
  go_wp2_with fail
  go_loopw [5, 6, 15] (fun o' d' i' wr => ∃ (i m og oo oc : Nat) (d : Bool), i' = .int .i64 i ∧ i ≤ N ∧ m ≤ i + 1 ∧ Hid (d = false → m ≤ i) ∧ d' = .bool d ∧ o' = .slice (some ⟨og, oo, none⟩) m oc ∧ Hid ((putF n b0 (l.take i)).2.length = m ∧ (putF n b0 (l.take i)).1 = d) ∧ Sl wr w.heap.size 1 (.slice (some ⟨og, oo, none⟩) m oc) m (ic (putF n b0 (l.take i)).2) ∧ Below w.heap.size w wr) (fun _ _ i' _ => N - (RowKit.intOf i').toNat)
  case atStart => exact ⟨0, 0, _, _, _, b0, rfl, by omega, by omega, (fun _ => Nat.le_refl _), rfl, rfl, ⟨rfl, rfl⟩, Sl.lit w w.heap.size 1 0 #[] _ (Nat.le_refl _) (by decide) rfl, B1.out⟩
  case round =>
    obtain ⟨W0, rfl⟩ : ∃ W0, W0 = wr := ⟨_, rfl⟩
    obtain ⟨i, m, og, oo, oc, d, rfl, hi, hmi, hmd, rfl, rfl, hml, hs, hb⟩ := hrel
    have HML := Lib.hid hml.out; have HS := Lib.hid hs; have HB := Lib.hid hb; have HMD := Lib.hid hmd.out
    have hbz := hb.size
    by_cases hlt : i < N
    · obtain ⟨rfl, hgl⟩ := HG.out (by omega)
      obtain ⟨x, hx⟩ : ∃ x, l[i]? = some x := ⟨l[i]'(by have := HN.out; omega), List.getElem?_eq_getElem (by have := HN.out; omega)⟩
      have c0 := (hb.cell (p := ⟨g, off + i, none⟩) hgl).trans ((HC.out i (by omega)).trans (ic_at l i x hx))
      obtain ⟨F, hF⟩ : ∃ F, F = putF n b0 (l.take i) := ⟨_, rfl⟩
      have HST := Lib.hid (show putF n b0 (l.take (i + 1)) = stepN n F x by rw [List.take_add_one, hx, hF]; exact putF_snoc n b0 _ x)
      have HM2 := Lib.hid (show F.2.length = m ∧ F.1 = d by rw [hF]; exact HML.out)
      have HS2 := Lib.hid (show Sl W0 w.heap.size 1 (.slice (some ⟨og, oo, none⟩) m oc) m (ic F.2) by rw [hF]; exact HS.out)
      have hil : (i : Int) < N := by omega
      clear hx hml hs hb hF hmd HS HML
      cases d with
      | true =>
        have HQ := Lib.hid (show putF n b0 (l.take (i + 1)) = (true, F.2 ++ [x]) by rw [HST.out]; unfold stepN; rw [HM2.out.2, if_neg (by simp)])
        go_wp2_with (at_builtin; go_loud (refine wpList_append_sl2 _ rfl _ _ 28 rfl w.heap.size 3 i0 (.int .i64 0) 1 8 Tryz.underlying28 Hi.out Hz.out Hs.out Hb.out rfl (by decide) _ m _ rfl (HS2.out.alloc _) _ _ 1 _ rfl (Sl.lit W0 w.heap.size 1 1 #[_] _ hbz (by decide) rfl) (ic_one [x]) (by unfold maxLen; omega) (by omega) (by simp; omega) ?_; intro v5 w5 x5; obtain ⟨g5, o5, c5, rfl, -⟩ := x5.now.somewhere (by omega); have bb5 := Lib.hid ((HB.out.alloc hbz _).trans (x5.below (Nat.le_refl _) (by simp; omega))); have X5 := Lib.hid x5; clear x5))
        exact ⟨⟨i + 1, m + 1, g5, o5, c5, true, by simp, by omega, by omega, (fun h => by cases h), rfl, rfl, by rw [HQ.out]; exact ⟨by rw [List.length_append, HM2.out.1]; rfl, rfl⟩, by rw [HQ.out, ic_append]; exact X5.out.now, bb5.out⟩, by simp [RowKit.intOf]; omega⟩
      | false =>
        by_cases hxy : n < x
        · have e1 : decide (n < x) = true := by simpa using hxy
          have HQ := Lib.hid (show putF n b0 (l.take (i + 1)) = (true, F.2 ++ [n] ++ [x]) by rw [HST.out]; unfold stepN; rw [HM2.out.2, if_pos ⟨rfl, hxy⟩]; simp)
          have hm2 : m ≤ i := HMD.out rfl
          clear hxy
          go_wp2_with (first
            | (at_builtin; refine wpList_append_sl2 _ rfl _ _ 28 rfl w.heap.size 3 i0 (.int .i64 0) 1 8 Tryz.underlying28 Hi.out Hz.out Hs.out Hb.out rfl (by decide) _ m _ rfl (HS2.out.alloc _) _ _ 1 _ rfl (Sl.lit W0 w.heap.size 1 1 #[_] _ hbz (by decide) rfl) (ic_one [n]) (by unfold maxLen; omega) (by omega) (by simp; omega) ?_; intro v5 w5 x5; obtain ⟨g5, o5, c5, rfl, -⟩ := x5.now.somewhere (by omega); have bb5 := Lib.hid ((HB.out.alloc hbz _).trans (x5.below (Nat.le_refl _) (by simp; omega))); have zz5 := bb5.out.size; have X5 := Lib.hid x5; clear x5)
            | (at_builtin; refine wpList_append_sl2 _ rfl _ _ 28 rfl w.heap.size 3 i0 (.int .i64 0) 1 8 Tryz.underlying28 Hi.out Hz.out Hs.out Hb.out rfl (by decide) _ (m + 1) _ rfl (X5.out.now.alloc _) _ _ 1 _ rfl (Sl.lit w5 w.heap.size 1 1 #[_] _ zz5 (by decide) rfl) (ic_one [x]) (by unfold maxLen; omega) (by omega) (by simp; omega) ?_; intro v6 w6 x6; obtain ⟨g6, o6, c6, rfl, -⟩ := x6.now.somewhere (by omega); have bb6 := Lib.hid ((bb5.out.alloc zz5 _).trans (x6.below (Nat.le_refl _) (by simp; omega))); have X6 := Lib.hid x6; clear x6))
          exact ⟨⟨i + 1, m + 1 + 1, g6, o6, c6, true, by simp, by omega, by omega, (fun h => by cases h), rfl, rfl, by rw [HQ.out]; exact ⟨by rw [List.length_append, List.length_append, HM2.out.1]; rfl, rfl⟩, by rw [HQ.out, ic_append, ic_append]; exact X6.out.now, bb6.out⟩, by simp [RowKit.intOf]; omega⟩
        · have e1 : decide (n < x) = false := by simpa using hxy
          have HQ := Lib.hid (show putF n b0 (l.take (i + 1)) = (false, F.2 ++ [x]) by rw [HST.out]; unfold stepN; rw [HM2.out.2, if_neg (by simp [hxy])])
          have hm2 : m ≤ i := HMD.out rfl
          clear hxy
          go_wp2_with (at_builtin; go_loud (refine wpList_append_sl2 _ rfl _ _ 28 rfl w.heap.size 3 i0 (.int .i64 0) 1 8 Tryz.underlying28 Hi.out Hz.out Hs.out Hb.out rfl (by decide) _ m _ rfl (HS2.out.alloc _) _ _ 1 _ rfl (Sl.lit W0 w.heap.size 1 1 #[_] _ hbz (by decide) rfl) (ic_one [x]) (by unfold maxLen; omega) (by omega) (by simp; omega) ?_; intro v5 w5 x5; obtain ⟨g5, o5, c5, rfl, -⟩ := x5.now.somewhere (by omega); have bb5 := Lib.hid ((HB.out.alloc hbz _).trans (x5.below (Nat.le_refl _) (by simp; omega))); have X5 := Lib.hid x5; clear x5))
          exact ⟨⟨i + 1, m + 1, g5, o5, c5, false, by simp, by omega, by omega, (fun _ => by omega), rfl, rfl, by rw [HQ.out]; exact ⟨by rw [List.length_append, HM2.out.1]; rfl, rfl⟩, by rw [HQ.out, ic_append]; exact X5.out.now, bb5.out⟩, by simp [RowKit.intOf]; omega⟩
    · have hil : ¬ (i : Int) < N := by omega
      have hall : l.take i = l := List.take_of_length_le (by have := HN.out; omega)
      have HM2 := Lib.hid (show (putF n b0 l).2.length = m ∧ (putF n b0 l).1 = d by have := HML.out; rw [hall] at this; exact this)
      have HS2 := Lib.hid (show Sl W0 w.heap.size 1 (.slice (some ⟨og, oo, none⟩) m oc) m (ic (putF n b0 l).2) by have := HS.out; rw [hall] at this; exact this)
      clear hall hml hs hb HS HML
      cases d with
      | true =>
        have HQ := Lib.hid (show (putF n b0 l).2 = putZ l n by have := HPF.out; rw [HM2.out.2, if_pos rfl] at this; exact this)
        go_wp2_with fail
        go_ret
        exact ⟨_, rfl, by rw [← HQ.out, HM2.out.1]; exact HS2.out, HB.out⟩
      | false =>
        have HQ := Lib.hid (show (putF n b0 l).2 ++ [n] = putZ l n by have := HPF.out; rw [HM2.out.2, if_neg (by simp)] at this; exact this)
        go_wp2_with (at_builtin; go_loud (refine wpList_append_sl2 _ rfl _ _ 28 rfl w.heap.size 3 i0 (.int .i64 0) 1 8 Tryz.underlying28 Hi.out Hz.out Hs.out Hb.out rfl (by decide) _ m _ rfl (HS2.out.alloc _) _ _ 1 _ rfl (Sl.lit W0 w.heap.size 1 1 #[_] _ hbz (by decide) rfl) (ic_one [n]) (by unfold maxLen; omega) (by omega) (by simp; omega) ?_; intro v5 w5 x5; obtain ⟨g5, o5, c5, rfl, -⟩ := x5.now.somewhere (by omega); have bb5 := Lib.hid ((HB.out.alloc hbz _).trans (x5.below (Nat.le_refl _) (by simp; omega))); have X5 := Lib.hid x5; clear x5))
        go_ret
        exact ⟨_, rfl, by rw [← HQ.out, List.length_append, HM2.out.1, ic_append]; exact X5.out.now, bb5.out⟩
end Go.Proofs.YteheojiokbdgmaaGreatDoor

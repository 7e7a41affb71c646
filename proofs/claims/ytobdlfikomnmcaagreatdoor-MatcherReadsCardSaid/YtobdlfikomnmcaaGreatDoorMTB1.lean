/- Layer 13: where a sign begins in whatever bytes. -/
import Derived.Test.YtobdlfikomnmcaaGreatDoorMTB0
namespace Go.Proofs.YtobdlfikomnmcaaGreatDoor
open Go.RowKit Go.Lib
set_option linter.unusedVariables false

theorem useset_any (n : Nat) (h : n ≤ 8) (w : World) : Calls Tryz.prog 45 #[.int .i64 (n : Int)] w fun e w' => e = .returned (.bool false) ∧ w = w' := by
  have h8 : ¬ (8 : Int) < (n : Int) := by omega
  go_enter Tryz.func45, Tryz.ntmps45
  go_wp2_with fail
  go_ret
  exact ⟨rfl, rfl⟩
theorem noany_far {s c : List UInt8} {i n : Nat} (h : NoAny s c i) (hc : Asc c) (hf : ∀ k, k < n → ∀ b, s[i + k]? = some b → 128 ≤ b.toNat) : NoAny s c (i + n) := by
  intro j b hj hb
  by_cases hji : j < i
  · exact h j b hji hb
  · have := hf (j - i) (by omega) b (by rw [show i + (j - i) = j by omega]; exact hb)
    rw [Bool.eq_false_iff]
    intro hm
    have hm2 : b ∈ c := by simpa using hm
    obtain ⟨k, hk⟩ := List.mem_iff_getElem?.1 hm2
    have := hc k b hk
    omega
theorem get_bs (s : List UInt8) (i : Nat) (h : i < s.length) : (bs s).get! i = s[i] := by
  show (s.toArray)[i]! = s[i]
  simp [h]

set_option maxHeartbeats 2000000 in
set_option maxRecDepth 100000 in
theorem idxany_short (s c : List UInt8) (w : World) (hs : s.length ≤ 8) (h4 : 4 ≤ c.length) (hl : c.length ≤ 100) (hc : Asc c) :
    Calls Tryz.prog 27 #[.string (bs s), .string (bs c)] w fun e w' => e = .returned (.int .i64 (Lib.indexAny s c)) ∧ Below w.heap.size w w' := by
  have hss := bs_size s
  have hcs := bs_size c
  have hT := bs_toList
  have hcz : ((c.length : Int) == 1) = false := by rw [beq_eq_false_iff_ne]; omega
  have hce : c.isEmpty = false := by cases c with | nil => simp at h4 | cons _ _ => rfl
  have US := Lib.hid (fun W => useset_any s.length hs W)
  have RF := Lib.hid (fun r W h1 h2 => irune_far c hc h4 hl r h1 h2 W)
  have RA := Lib.hid (fun (x : UInt8) (hx : x.toNat < 128) W => show Calls Tryz.prog 44 #[.string (bs c), .int .i32 x.toNat] W (fun e w' => e = .returned (.int .i64 (Lib.indexByte c x)) ∧ w' = W) from by
    have := Any.strings_IndexRune_ascii (P := Tryz.prog) { anyIdx with } (bs c) x.toNat W (by omega) (by omega)
    have e : ((x.toNat : Int)).toNat.toUInt8 = x := by simp
    rw [e] at this
    exact this)
  have hk0 : (w.iter (bs s) 0).heap[w.heap.size]? = some (.stringIter (bs s) 0) := World.iter_heap w (bs s) 0
  have hb0 : Below w.heap.size w (w.iter (bs s) 0) := (Below.refl _ _).alloc (Nat.le_refl _) _
  have HC := Lib.hid hc
  clear hc
  go_enter Tryz.func27, Tryz.ntmps27
  go_wp2_with fail
  refine (US.out _).mono ?_
  rintro e w1 ⟨rfl, rfl⟩
  go_wp2_with fail
  go_loopw [9, 10] (fun _ _ wr => ∃ pos : Nat, pos ≤ s.length ∧ wr.heap[w.heap.size]? = some (.stringIter (bs s) pos) ∧ Below w.heap.size w wr ∧ Hid (NoAny s c pos)) (fun _ _ wr => s.length - wr.iterPos w.heap.size)
  case atStart => exact ⟨0, Nat.zero_le _, hk0, hb0, Lib.hid (NoAny.zero _ _)⟩
  case round =>
    obtain ⟨W0, rfl⟩ : ∃ W0, W0 = wr := ⟨_, rfl⟩
    obtain ⟨pos, hps, hk, hnx, hno⟩ := hrel
    clear hk0 hb0
    by_cases hp : pos < s.length
    · have hpz : pos < (bs s).size := by rw [hss]; exact hp
      obtain ⟨x, hx⟩ : ∃ x, s[pos] = x := ⟨_, rfl⟩
      have hxl : s[pos]? = some x := by rw [← hx]; exact List.getElem?_eq_getElem hp
      have hxb : (bs s)[pos]'hpz = x := hx
      have hmu : W0.iterPos w.heap.size = pos := by simp [World.iterPos, hk]
      by_cases hxa : x.toNat < 128
      · have hnext : ∀ ty, (Instr.next (.pointer (some ⟨w.heap.size, 0, none⟩)) true ty).run Tryz.prog W0 = _ := fun ty => Lib.run_next_ascii_at W0 w.heap.size (bs s) pos ty hk hpz (by rw [hxb]; exact hxa)
        have hk1 := Lib.iterAt_heap W0 w.heap.size (bs s) pos (pos + 1) hk
        have hnx1 : Below w.heap.size w (W0.iterAt w.heap.size (bs s) (pos + 1)) := Lib.below_iterAt hnx (Nat.le_refl _) (bs s) (pos + 1)
        generalize W0.iterAt w.heap.size (bs s) (pos + 1) = W1 at hnext hk1 hnx1
        rw [hxb] at hnext
        have hmu1 : W1.iterPos w.heap.size = pos + 1 := by simp [World.iterPos, hk1]
        have HM1 := Lib.hid hmu1
        have HMU := Lib.hid hmu
        have HK1 := Lib.hid hk1
        have HNX1 := Lib.hid hnx1
        have CR := Lib.hid (RA.out x hxa)
        have hcon := Lib.contains_iff_indexByte c x
        cases hin : c.contains x with
        | false =>
          rw [hin] at hcon
          have hlt : ¬ ((0 : Int) ≤ Lib.indexByte c x) := of_decide_eq_false hcon.symm
          have HNO := Lib.hid (hno.out.succ hxl hin)
          clear hx hxl hxb hmu hk1 hnx1 hk hnx hmu1 hno hcon
          go_wp2_with fail
          refine (CR.out _).mono ?_
          rintro e w2 ⟨rfl, rfl⟩
          go_wp2_with fail
          exact ⟨⟨pos + 1, by omega, HK1.out, HNX1.out, HNO⟩, by rw [HM1.out, HMU.out]; omega⟩
        | true =>
          rw [hin] at hcon
          have hge : (0 : Int) ≤ Lib.indexByte c x := of_decide_eq_true hcon.symm
          have HI := Lib.hid (indexAny_hit hno.out hxl hin)
          clear hx hxl hxb hmu hk1 hnx1 hk hnx hmu1 hno hcon
          go_wp2_with fail
          refine (CR.out _).mono ?_
          rintro e w2 ⟨rfl, rfl⟩
          go_wp2_with fail
          go_ret
          exact ⟨by rw [HI.out]; rfl, HNX1.out⟩
      · have hnext : ∀ ty, (Instr.next (.pointer (some ⟨w.heap.size, 0, none⟩)) true ty).run Tryz.prog W0 = _ := fun ty => Lib.run_next_any_at W0 w.heap.size (bs s) pos ty hk hpz
        obtain ⟨d1, d2, d3, d4⟩ := dec_far (bs s) pos hpz (by rw [Nat.add_zero, (get_bs s pos hp).trans hx]; omega)
        obtain ⟨r, hr⟩ : ∃ r, r = (Utf8.decode (bs s) pos).1 := ⟨_, rfl⟩
        obtain ⟨n, hn⟩ : ∃ n, n = (Utf8.decode (bs s) pos).2 := ⟨_, rfl⟩
        rw [← hr, ← hn] at hnext
        rw [← hr] at d1 d2
        rw [← hn] at d3 d4
        have hk1 := Lib.iterAt_heap W0 w.heap.size (bs s) pos (pos + n) hk
        have hnx1 : Below w.heap.size w (W0.iterAt w.heap.size (bs s) (pos + n)) := Lib.below_iterAt hnx (Nat.le_refl _) (bs s) (pos + n)
        generalize W0.iterAt w.heap.size (bs s) (pos + n) = W1 at hnext hk1 hnx1
        have hpn : pos + n ≤ s.length := by
          have := (d4 (n - 1) (by omega)).1
          rw [hss] at this
          omega
        have HNO := Lib.hid (noany_far hno.out HC.out (n := n) (fun k hk b hb => by
          have h1 := (d4 k hk).2
          have hlt := (List.getElem?_eq_some_iff.1 hb).1
          rw [get_bs s (pos + k) hlt, (List.getElem?_eq_some_iff.1 hb).2] at h1
          exact h1))
        have hmu1 : W1.iterPos w.heap.size = pos + n := by simp [World.iterPos, hk1]
        have HM1 := Lib.hid hmu1
        have HMU := Lib.hid hmu
        have HK1 := Lib.hid hk1
        have HNX1 := Lib.hid hnx1
        have CR := Lib.hid (fun W => RF.out r W d1 d2)
        have hlt : w.heap.size < W1.heap.size := (Array.getElem?_eq_some_iff.1 hk1).1
        clear hx hxl hxb hmu hk1 hnx1 hk hnx hmu1 hno hr hn d4
        go_wp2_with fail
        refine (CR.out _).mono ?_
        rintro e w2 ⟨rfl, b2⟩
        have HK2 := Lib.hid ((b2.block w.heap.size hlt).trans HK1.out)
        have HNX2 := Lib.hid (HNX1.out.trans (b2.mono (by omega)))
        have hmu2 : w2.iterPos w.heap.size = pos + n := by simp [World.iterPos, HK2.out]
        have HM2 := Lib.hid hmu2
        clear b2 hmu2
        go_wp2_with fail
        exact ⟨⟨pos + n, by omega, HK2.out, HNX2.out, HNO⟩, by rw [HM2.out, HMU.out]; omega⟩
    · have hpz : ¬ pos < (bs s).size := by rw [hss]; exact hp
      have hnext := fun ty => Lib.run_next_end_at (P := Tryz.prog) W0 w.heap.size (bs s) pos ty hk hpz
      have HB := Lib.hid hnx
      have HI := Lib.hid (indexAny_none (s := s) (chars := c) (by have := hno.out; rw [show pos = s.length by omega] at this; exact this))
      clear hk hnx hno
      go_wp2_with fail
      go_ret
      exact ⟨by rw [HI.out]; rfl, HB.out⟩
theorem idxany_all (s c : List UInt8) (w : World) (hs : s.length < 1000000) (h4 : 4 ≤ c.length) (hl : c.length ≤ 100) (hc : Asc c) :
    Calls Tryz.prog 27 #[.string (bs s), .string (bs c)] w fun e w' => e = .returned (.int .i64 (Lib.indexAny s c)) ∧ Below w.heap.size w w' := by
  by_cases h8 : s.length ≤ 8
  · exact idxany_short s c w h8 h4 hl hc
  · have h116 : (Tryz.prog.info? (anyIdx_ren.t 116)).map (fun i => (i.zero, i.size)) = some (some (.agg (Array.replicate 256 (.bool false))), 256) := by kernel_rfl
    refine (Any.strings_IndexAny_long anyIdx (zero_of_info h116).1 (zero_of_info h116).2 (bs s) (bs c) w (by rw [bs_size]; omega) (by rw [bs_size]; omega) (by rw [bs_size]; omega) (by rw [bs_size]; omega) hc).mono fun e w' ⟨h1, h2⟩ => ⟨h1, ?_⟩
    rw [h2]
    exact ((Below.refl _ _).alloc (Nat.le_refl _) _).alloc (by simp) _
theorem hasany_all (s c : List UInt8) (w : World) (hs : s.length < 1000000) (h4 : 4 ≤ c.length) (hl : c.length ≤ 100) (hc : Asc c) :
    Calls Tryz.prog 37 #[.string (bs s), .string (bs c)] w fun e w' => e = .returned (.bool (Lib.containsAny s c)) ∧ Below w.heap.size w w' := by
  have I := Lib.hid (idxany_all s c w hs h4 hl hc)
  go_enter Tryz.func37, Tryz.ntmps37
  go_wp2_with fail
  refine I.out.mono ?_
  rintro e w1 ⟨rfl, b1⟩
  go_wp2
  go_ret
  exact ⟨rfl, b1⟩
end Go.Proofs.YtobdlfikomnmcaaGreatDoor

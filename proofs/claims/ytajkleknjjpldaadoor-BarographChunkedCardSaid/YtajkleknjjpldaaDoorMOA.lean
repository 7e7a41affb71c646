/- Layer 7: samples as a chunk's bytes. -/
import Derived.Test.YtajkleknjjpldaaDoorMO9
import Derived.Test.YtajkleknjjpldaaDoorMRd
import Derived.Deep.WholeRow
namespace Go.Proofs.YtajkleknjjpldaaDoor
open Go.RowKit Go.Lib

/-- A chunk's cells at first. -/
def chZ : Array Value := ((List.replicate 120 [Value.int .i64 0, Value.int .u64 0]).flatten ++ [Value.int .i64 0]).toArray
theorem chZ_info : (Tryd.prog.info? 49).map (fun i => (i.zero, i.size)) = some (some (.agg chZ), 241) := by kernel_rfl
theorem chZ_ch : Ch chZ [] := by
  refine ⟨by decide +kernel, Xo.good_nil, by kernel_rfl, fun i s h => by simp at h, by decide +kernel⟩

/-- The cells of samples. -/
def smc (l : List Xo.Sm) : List Value := l.flatMap fun s => [.int .i64 s.1, .int .u64 s.2]
theorem smc_length (l : List Xo.Sm) : (smc l).length = l.length * 2 := by
  induction l with
  | nil => rfl
  | cons s l ih => simp only [smc, List.flatMap_cons, List.length_append, List.length_cons] at ih ⊢; simp at ih ⊢; omega
theorem smc_at (l : List Xo.Sm) : ∀ (i : Nat) (s : Xo.Sm), l[i]? = some s → (smc l)[i * 2]? = some (.int .i64 s.1) ∧ (smc l)[i * 2 + 1]? = some (.int .u64 s.2) := by
  induction l with
  | nil => intro i s h; simp at h
  | cons x l ih =>
    intro i s h
    cases i with
    | zero =>
      simp at h
      subst h
      exact ⟨rfl, rfl⟩
    | succ i =>
      simp at h
      have := ih i s h
      rw [show (i + 1) * 2 = i * 2 + 2 by omega, show i * 2 + 2 + 1 = (i * 2 + 1) + 2 by omega]
      exact this

def appAll : List Xo.Sm → List Xo.Sm → Nat
  | _, [] => 0
  | acc, s :: l => if Xo.err acc s ≠ 0 then Xo.err acc s else appAll (acc ++ [s]) l
/-- The first error of samples, one by one. -/
def ofErr (l : List Xo.Sm) : Nat := appAll [] l
theorem appAll_good : ∀ (l acc : List Xo.Sm), Xo.Good (acc ++ l) → appAll acc l = 0
  | [], _, _ => rfl
  | s :: l, acc, h => by
    rw [← List.singleton_append, ← List.append_assoc] at h
    have he := Xo.good_err (Xo.good_prefix h)
    unfold appAll
    rw [if_neg (by omega)]
    exact appAll_good l (acc ++ [s]) h
theorem ofErr_good (l : List Xo.Sm) (h : Xo.Good l) : ofErr l = 0 := appAll_good l [] h
def ofS (l : List Xo.Sm) : List UInt8 := if ofErr l = 0 then Xo.text l else []
/-- Samples within their types. -/
def Fits (l : List Xo.Sm) : Prop := ∀ s ∈ l, -9223372036854775808 ≤ s.1 ∧ s.1 ≤ 9223372036854775807 ∧ s.2 < 18446744073709551616

set_option maxRecDepth 100000 in
theorem of_any (C : Nat) (v : Value) (l : List Xo.Sm) (w : World) (hv : Rd w 2 v l.length (smc l)) (hf : Fits l) (hT : Tabs C w) (hl : l.length ≤ 1000000) :
    Calls Tryd.prog 5 #[v] w fun e w' => e = .returned (.tuple #[.string (bs (ofS l)), .int .i64 (ofErr l)]) ∧ Below w.heap.size w w' := by
  obtain ⟨hz, hsz⟩ := zero_of_info chZ_info
  obtain ⟨Z, hZ⟩ : ∃ Z, Z = chZ := ⟨_, rfl⟩
  have hch := chZ_ch
  rw [← hZ] at hz hch
  clear hZ
  obtain ⟨hxs, a, cap, g, off, rfl, hga, hcell⟩ := hv
  go_enter Tryd.func5, Tryd.ntmps5
  go_wp2_with fail
  have c00 : ChAt w.heap.size Z [] (w.alloc (.cells Z 49)) := ⟨hch, heap_alloc_new _ _⟩
  have b00 : Below w.heap.size w (w.alloc (.cells Z 49)) := (Below.refl _ _).alloc (Nat.le_refl _) _
  go_loopw [10] (fun i' wr => ∃ (i : Nat) (A : Array Value), i' = .int .i64 i ∧ i ≤ l.length ∧ ChAt w.heap.size A (l.take i) wr ∧ Below w.heap.size w wr ∧ Hid (ofErr l = appAll (l.take i) (l.drop i))) (fun i' _ => l.length - (RowKit.intOf i').toNat)
  case atStart => exact ⟨0, Z, rfl, by omega, c00, b00, rfl⟩
  case round =>
    obtain ⟨i, A, rfl, hi, hC, hb, hap⟩ := hrel
    by_cases hlt : i < l.length
    · obtain ⟨s, hs⟩ : ∃ s, l[i]? = some s := ⟨l[i], List.getElem?_eq_getElem hlt⟩
      have hmem : s ∈ l := List.mem_of_getElem? hs
      have hfs := hf s hmem
      obtain ⟨rfl, hgl⟩ := hga (by omega)
      have hcs := smc_at l i s hs
      have c0 := (hb.cell (p := ⟨g, off + i * 2, none⟩) hgl).trans ((hcell (i * 2) (by omega)).trans hcs.1)
      have c1 := (hb.cell (p := ⟨g, off + i * 2 + 1, none⟩) hgl).trans ((hcell (i * 2 + 1) (by omega)).trans hcs.2)
      have htk : l.take (i + 1) = l.take i ++ [s] := by rw [List.take_add_one, hs]; rfl
      have hdr : l.drop i = s :: l.drop (i + 1) := by rw [← List.getElem_cons_drop (h := hlt)]; congr 1; exact (List.getElem?_eq_some_iff.1 hs).2
      have hap2 := hap.out
      rw [hdr] at hap2
      unfold appAll at hap2
      obtain ⟨s1, s2⟩ := s
      simp only at c0 c1 hfs
      have hCl := hC.lt
      have AC := Lib.hid (append_chunk w.heap.size A (l.take i) s1 s2 (wr.alloc (.cells #[.int .i64 s1, .int .u64 s2] 27)) (hC.keep (Below.heap_alloc wr _ _ hCl)) hfs.1 hfs.2.1 hfs.2.2)
      have b1 : Below w.heap.size w (wr.alloc (.cells #[.int .i64 s1, .int .u64 s2] 27)) := hb.alloc hb.size _
      obtain ⟨er, her⟩ : ∃ er, er = Xo.err (l.take i) (s1, s2) := ⟨_, rfl⟩
      unfold App at AC
      rw [← her] at AC hap2
      rw [← htk] at AC hap2
      by_cases he : er = 0
      · have HA := Lib.hid (show ofErr l = appAll (l.take (i + 1)) (l.drop (i + 1)) by rw [hap2, if_neg (by omega)])
        subst he
        simp only [if_true] at AC
        clear her hap2 htk hdr hcs hmem hs hap hCl hfs hcell hxs
        go_wp2_with (go_at_call 13; refine AC.out.mono ?_; rintro e w1 ⟨rfl, u1, A1, hC1⟩)
        exact ⟨⟨i + 1, A1, by go_num, hlt, hC1, b1.trans (u1.below b1.size (fun k hk => by omega)), HA⟩, by simp [RowKit.intOf]; omega⟩
      · have HA := Lib.hid (show ofErr l = er by rw [hap2, if_pos he])
        have hez : ((er : Int) == 0) = false := by simp; omega
        rw [if_neg he] at AC
        clear her hap2 htk hdr hcs hmem hs hap hCl hfs hcell hxs
        go_wp2_with (go_at_call 13; refine AC.out.mono ?_; rintro e w1 ⟨rfl, u1, A1, hC1⟩)
        go_ret2
        have hs0 : ofS l = [] := by unfold ofS; rw [HA.out, if_neg he]
        refine ⟨by rw [HA.out, hs0]; rfl, b1.trans (u1.below b1.size (fun k hk => by omega))⟩
    · have hil : i = l.length := by omega
      subst hil
      rw [List.take_length] at hC
      have HA := hap.out
      rw [List.drop_length] at HA
      have HAA := Lib.hid HA
      have TX := Lib.hid (text_chunk C w.heap.size A l wr hC (hT.below hb hT.hB))
      clear hap HA hcell hxs
      go_wp2_with (go_at_call 14; refine TX.out.mono ?_; rintro e w1 ⟨rfl, b1⟩)
      go_ret2
      have h0 : ofErr l = 0 := HAA.out
      have hs0 : ofS l = Xo.text l := by unfold ofS; rw [h0, if_pos rfl]
      exact ⟨by rw [h0, hs0]; rfl, hb.trans (b1.mono hb.size)⟩
end Go.Proofs.YtajkleknjjpldaaDoor

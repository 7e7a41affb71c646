/- Layer 4: Rename. -/
import Derived.Test.YtfjihookoilnnaaD16
namespace Go.Proofs.Ytfjihookoilnnaa
open Go.Conc Go.RowKit

theorem del_mem (k : ByteArray) : ∀ fs : List Fl, (fs.map (·.name)).Nodup → ∀ y ∈ delF k fs, y.name ≠ k
  | [], _, y, h => by cases h
  | e :: es, hn, y, h => by
    rw [List.map_cons, List.nodup_cons] at hn
    unfold delF at h
    by_cases hk : k = e.name
    · rw [if_pos hk] at h
      exact fun e2 => hn.1 (List.mem_map.2 ⟨y, h, by rw [e2, hk]⟩)
    · rw [if_neg hk] at h
      rcases List.mem_cons.1 h with rfl | h
      · exact fun e2 => hk e2.symm
      · exact del_mem k es hn.2 y h

set_option maxHeartbeats 1000000 in
set_option maxRecDepth 100000 in
theorem rename1_any (base d f c m : Nat) (room : Int) (fs : List Fl) (A : List Ft) (clock : Nat) (x : Fl) (a : Option Addr) (n cap : Nat) (name : ByteArray) (bd bn bm bf : Nat) (w : World) (h : DiskAt base d f c m room fs A clock w) (hx : x ∈ fs) (hv : x.v = .slice a n cap)
    (p0 : w.cell? ⟨bd, 0, none⟩ = some (.pointer (some ⟨d, 0, none⟩))) (p1 : w.cell? ⟨bn, 0, none⟩ = some (.string x.name)) (p2 : w.cell? ⟨bm, 0, none⟩ = some (.string name)) (p3 : w.cell? ⟨bf, 0, none⟩ = some (.slice a n cap)) (p4 : w.cell? ⟨bf, 1, none⟩ = some (.int .i64 x.sure))
    (q : ∀ k, k = bd ∨ k = bn ∨ k = bm ∨ k = bf → k < w.heap.size ∧ ¬ Mine d f c m fs k) :
    Calls Try.prog 69 #[.pointer (some ⟨bd, 0, none⟩), .pointer (some ⟨bn, 0, none⟩), .pointer (some ⟨bm, 0, none⟩), .pointer (some ⟨bf, 0, none⟩)] w fun e w' => ∃ er, e = .returned (.int .i64 er) ∧ er = 0 ∧ ∃ b, Now base d f c m room fs (setF name x.v x.data x.sure b (delF x.name fs)) A w w' := by
  obtain ⟨hsl, hnc, hn⟩ := files_cut h.files x hx a n cap n hv (Nat.le_refl _)
  have hlook := look_of h.files.names x hx
  have hval : valF x.name fs = .slice a n cap := by unfold valF; rw [hlook]; exact hv
  have hlen : lenF x.name fs = n := by unfold lenF; rw [hlook]; exact hn.symm
  have hu := used_del x.name fs
  rw [List.take_of_length_le (by omega)] at hsl
  have hap : ∀ y ∈ delF x.name fs, y.name ≠ name → ∀ i, (Value.slice a n cap).ownBlock = some i → y.v.ownBlock ≠ some i := fun y hy _ => by
    rw [← hval]; exact files_apart h.files x.name y ((del_sub x.name fs).subset hy) (del_mem x.name fs h.files.names y hy)
  have hsm := h.small
  have hsure := h.files.sure x hx
  have H1 := Lib.hid (drop_any base d f c m room fs A clock x.name w h)
  have H2 := Lib.hid (fun W ck (D : DiskAt base d f c m room (delF x.name fs) A ck W) (hs : Sl W base 1 (.slice a n cap) n (cb x.data)) => dput_any base d f c m room (delF x.name fs) A ck name a n cap x.sure x.data W D (by omega) hn.symm hs (by omega) hap)
  have HV := Lib.hid hv
  have nd : ∀ k, k = bd ∨ k = bn ∨ k = bm ∨ k = bf → ¬ (k = d ∨ k = m) := fun k hk e => (q k hk).2 (by rcases e with e | e; exact .inl e; exact .inr (.inr (.inr (.inl e))))
  have hdB := h.dlt
  have hmB := h.mlt
  clear hn hv hap hlen hval hlook hu
  go_enter Try.func69, Try.ntmps69
  go_wp2_with fail
  refine H1.out.mono ?_
  rintro e w2 ⟨rfl, ⟨ck, D2⟩, t2⟩
  have r0 := (t2.cell (p := ⟨bd, 0, none⟩) (q bd (.inl rfl)).1 (nd bd (.inl rfl))).trans p0
  have r2 := (t2.cell (p := ⟨bm, 0, none⟩) (q bm (.inr (.inr (.inl rfl)))).1 (nd bm (.inr (.inr (.inl rfl))))).trans p2
  have r3 := (t2.cell (p := ⟨bf, 0, none⟩) (q bf (.inr (.inr (.inr rfl)))).1 (nd bf (.inr (.inr (.inr rfl))))).trans p3
  have r4 := (t2.cell (p := ⟨bf, 1, none⟩) (q bf (.inr (.inr (.inr rfl)))).1 (nd bf (.inr (.inr (.inr rfl))))).trans p4
  have hs2 : Sl w2 base 1 (.slice a n cap) n (cb x.data) := hsl.same t2.size fun k hk => t2.block k (hsl.lt k hk).2 fun e => by
    have := (hsl.lt k hk).1
    rcases e with e | e <;> omega
  have C2 := Lib.hid (H2.out w2 ck D2 hs2)
  unfold fval at C2
  clear p0 p1 p2 p3 p4
  go_wp2_with fail
  refine C2.out.mono ?_
  rintro e w4 ⟨rfl, D4, t4⟩
  go_wp2
  go_ret
  refine ⟨0, rfl, rfl, ck, ?_⟩
  have N1 : Now base d f c m room fs (delF x.name fs) A w w2 := Now.del (Below.refl _ w) ⟨ck, D2⟩ t2
  rw [HV.out]
  refine ⟨D4, N1.2.1.trans (t4.mono fun k hk => by rcases hk with e | e; exact .inl e; exact .inr (.inr (.inr (.inl e)))), fun k hk => ?_⟩
  rcases hk with e | e | e | e | ⟨y, hym, hyk⟩
  · exact .inl (.inl e)
  · exact .inl (.inr (.inl e))
  · exact .inl (.inr (.inr (.inl e)))
  · exact .inl (.inr (.inr (.inr (.inl e))))
  · rcases set_mem name _ _ _ _ _ D2.files.names y hym with ⟨h1, _⟩ | ⟨h1, _⟩
    · exact .inl (.inr (.inr (.inr (.inr ⟨y, (del_sub x.name fs).subset h1, hyk⟩))))
    · rw [h1] at hyk
      exact .inl (.inr (.inr (.inr (.inr ⟨x, hx, by rw [HV.out]; exact hyk⟩))))
end Go.Proofs.Ytfjihookoilnnaa

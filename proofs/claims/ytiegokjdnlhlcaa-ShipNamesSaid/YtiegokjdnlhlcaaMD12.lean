/- Layer 4: a crash. -/
import Derived.Test.YtiegokjdnlhlcaaMD11
namespace Go.Proofs.Ytiegokjdnlhlcaa
open Go.Conc Go.RowKit
open Go.Proofs (encStr)

def cutDV : Value → Nat → Value
  | .slice a _ cap, k => .slice a k cap
  | v, _ => v
/-- So many bytes are left of a file, c being chosen. -/
def leftN (x : Fl) (c : Int) : Nat := x.sure + (c % ((x.data.length - x.sure : Nat) + 1 : Int)).toNat
/-- What a crash leaves, by these names. -/
def crashL : List (List UInt8) → List Int → List Fl → List Fl
  | [], _, fs => fs
  | n :: ns, cs, fs => match lookF ⟨n.toArray⟩ fs with
    | none => crashL ns cs fs
    | some x => if x.data.length - x.sure = 0 then crashL ns cs fs else
      crashL ns cs.tail (setF x.name (cutDV x.v (leftN x (cs.headD 0))) (x.data.take (leftN x (cs.headD 0))) (leftN x (cs.headD 0)) 0 fs)

theorem set_b (k : ByteArray) (v : Value) (data : List UInt8) (s b b' : Nat) : ∀ fs : List Fl, (lookF k fs).isSome → setF k v data s b fs = setF k v data s b' fs
  | [], h => by simp [lookF] at h
  | e :: es, h => by
    unfold setF
    unfold lookF at h
    by_cases hk : k = e.name
    · rw [if_pos hk, if_pos hk]
    · rw [if_neg hk] at h
      rw [if_neg hk, if_neg hk, set_b k v data s b b' es h]
theorem set_names_eq (k : ByteArray) (v : Value) (data : List UInt8) (s b : Nat) : ∀ fs : List Fl, (lookF k fs).isSome → (setF k v data s b fs).map (·.name) = fs.map (·.name)
  | [], h => by simp [lookF] at h
  | e :: es, h => by
    unfold setF
    unfold lookF at h
    by_cases hk : k = e.name
    · rw [if_pos hk]; rfl
    · rw [if_neg hk] at h
      rw [if_neg hk, List.map_cons, List.map_cons, set_names_eq k v data s b es h]
theorem look_names (k : ByteArray) : ∀ fs : List Fl, k ∈ fs.map (·.name) → (lookF k fs).isSome
  | [], h => by simp at h
  | e :: es, h => by
    unfold lookF
    by_cases hk : k = e.name
    · rw [if_pos hk]; rfl
    · rw [if_neg hk]
      rw [List.map_cons, List.mem_cons] at h
      rcases h with h | h
      · exact absurd h hk
      · exact look_names k es h
theorem leftN_le (x : Fl) (c : Int) (h : x.sure ≤ x.data.length) : leftN x c ≤ x.data.length ∧ x.sure ≤ leftN x c := by
  unfold leftN
  have h1 : 0 ≤ c % ((x.data.length - x.sure : Nat) + 1 : Int) := Int.emod_nonneg _ (by omega)
  have h2 : c % ((x.data.length - x.sure : Nat) + 1 : Int) < ((x.data.length - x.sure : Nat) + 1 : Int) := Int.emod_lt_of_pos _ (by omega)
  omega

theorem crashL_same (n : List UInt8) (ns : List (List UInt8)) (cs : List Int) (fs : List Fl) (x : Fl) (hx : lookF ⟨n.toArray⟩ fs = some x) (h : x.data.length - x.sure = 0) : crashL (n :: ns) cs fs = crashL ns cs fs := by
  conv => lhs; unfold crashL
  rw [hx]
  simp only
  rw [if_pos h]
theorem crashL_cut (n : List UInt8) (ns : List (List UInt8)) (cs : List Int) (fs : List Fl) (x : Fl) (hx : lookF ⟨n.toArray⟩ fs = some x) (h : ¬ x.data.length - x.sure = 0) :
    crashL (n :: ns) cs fs = crashL ns cs.tail (setF x.name (cutDV x.v (leftN x (cs.headD 0))) (x.data.take (leftN x (cs.headD 0))) (leftN x (cs.headD 0)) 0 fs) := by
  conv => lhs; unfold crashL
  rw [hx]
  simp only
  rw [if_neg h]

/-- A slice of numbers is read so. -/
def IntsIn (w : World) (v : Value) (cs : List Int) : Prop :=
  ∃ a cap, v = .slice a cs.length cap ∧ cs.length ≤ cap ∧ (0 < cs.length → ∃ g off, a = some ⟨g, off, none⟩ ∧ ∀ j, j < cs.length → w.cell? ⟨g, off + j, none⟩ = some (.int .i64 (cs.getD j 0)))
theorem IntsIn.on {w w' : World} {v : Value} {cs : List Int} (h : IntsIn w v cs) (hc : 0 < cs.length → ∀ k, v.ownBlock = some k → w'.heap[k]? = w.heap[k]?) : IntsIn w' v cs := by
  obtain ⟨a, cap, rfl, h1, h2⟩ := h
  refine ⟨a, cap, rfl, h1, fun h0 => ?_⟩
  obtain ⟨g, off, rfl, h3⟩ := h2 h0
  exact ⟨g, off, rfl, fun j hj => (World.cell?_of_block (a := ⟨g, off + j, none⟩) (hc h0 g rfl)).trans (h3 j hj)⟩
theorem IntsIn.slice {w : World} {v : Value} {cs : List Int} (h : IntsIn w v cs) : ∃ a cap, v = .slice a cs.length cap := by
  obtain ⟨a, cap, h, _⟩ := h
  exact ⟨a, cap, h⟩
/-- Many are no more than the cell of each says. -/
def Reach (cs : List Int) : Prop := cs.length ≤ 9223372036854775807 ∧ ∀ c ∈ cs, -9223372036854775808 ≤ c ∧ c ≤ 9223372036854775807

theorem sl_open {w : World} {base n : Nat} {v : Value} {xs : List Value} (hs : Sl w base 1 v n xs) : ∃ a cap gl offl, v = .slice a n cap ∧ (0 < n → a = some ⟨gl, offl, none⟩ ∧ base ≤ gl ∧ gl < w.heap.size) ∧ ∀ j, j < n → w.cell? ⟨gl, offl + j, none⟩ = xs[j]? := by
  rcases hs.2 with ⟨rfl, rfl⟩ | ⟨g, off, cap, rfl, h1, h2, _, _, _, h3⟩
  · exact ⟨none, 0, 0, 0, rfl, fun h => absurd h (by omega), fun j hj => absurd hj (by omega)⟩
  · exact ⟨_, cap, g, off, rfl, fun _ => ⟨rfl, h1, h2⟩, fun j hj => h3 j (by omega)⟩

/-- All names of files, rising. -/
def sortedF (fs : List Fl) : List (List UInt8) := (namesF ⟨#[]⟩ fs).mergeSort leB

/-- A crash, so far. -/
def Crashing (base d f c m : Nat) (room : Int) (fs : List Fl) (ns : List (List UInt8)) (cs : List Int) (gl offl : Nat) (gc : Option Nat) (B2 : Nat) (w0 : World) (vc vi : Value) (wr : World) : Prop :=
  ∃ (i : Nat) (cs' : List Int) (fs' : List Fl), vi = .int .i64 i ∧ i ≤ ns.length ∧ Now base d f c m room fs fs' [] w0 wr ∧ IntsIn wr vc cs' ∧ Reach cs' ∧ (0 < cs'.length → ∀ k, vc.ownBlock = some k → gc = some k) ∧
    crashL (ns.drop i) cs' fs' = crashL ns cs fs ∧ fs'.map (·.name) = fs.map (·.name) ∧ (∀ j, j < ns.length → wr.cell? ⟨gl, offl + j, none⟩ = (ns.map encStr)[j]?) ∧ B2 ≤ wr.heap.size

set_option maxHeartbeats 1000000 in
set_option maxRecDepth 100000 in
theorem crash_any (base d f c m : Nat) (room : Int) (fs : List Fl) (A : List Ft) (clock : Nat) (v : Value) (cs : List Int) (gc : Option Nat) (w : World) (h : DiskAt base d f c m room fs A clock w) (hfew : fs.length ≤ 1000)
    (hi : IntsIn w v cs) (hr : Reach cs) (hg : 0 < cs.length → ∀ k, v.ownBlock = some k → gc = some k) (hgc : ∀ k, gc = some k → k < w.heap.size ∧ ¬ Mine d f c m fs k) :
    Calls Try.prog 8 #[.pointer (some ⟨d, 0, none⟩), v] w fun e w' => e = .returned (.tuple #[]) ∧ Now base d f c m room fs (crashL (sortedF fs) cs fs) [] w w' := by
  obtain ⟨L, ar, now, hF, _⟩ := h.fuse
  have c0 := h.c0
  have hdB := h.dlt
  have hmB := h.mlt
  have hbB := h.hb
  have HC := Lib.hid (clear_any f c L ar now w hF)
  clear hF
  go_enter Try.func8, Try.ntmps8
  go_wp2_with fail
  refine HC.out.mono ?_
  rintro e w1 ⟨rfl, hF1, t1⟩
  have D1 := h.tried t1 ⟨[], false, (0, false), hF1, rfl⟩
  have N1 : Now base d f c m room fs fs [] w w1 := Now.tried h (Below.refl _ w) t1 ⟨[], false, (0, false), hF1, rfl⟩
  have HL := Lib.hid (list_any base d f c m room fs [] clock ⟨#[]⟩ w1 D1 hfew)
  clear hF1
  go_wp2_with fail
  refine HL.out.mono ?_
  rintro e w2 ⟨vl, rfl, hsl, b2⟩
  have D2 := D1.below b2
  have N2 : Now base d f c m room fs fs [] w w2 := N1.trans (Now.same D1 b2)
  obtain ⟨al, capl, gl, offl, hvl, hal, hcl⟩ := sl_open hsl
  subst hvl
  obtain ⟨ns, hns⟩ : ∃ ns, ns = sortedF fs := ⟨_, rfl⟩
  obtain ⟨n, hn⟩ : ∃ n, n = (namesF ⟨#[]⟩ fs).length := ⟨_, rfl⟩
  have hnl : ns.length = n := by rw [hns, hn]; exact List.length_mergeSort _
  have hn1 : n ≤ 1000 := by rw [hn]; exact Nat.le_trans (List.length_filter_le _ _) (by simpa using hfew)
  rw [← hn] at hal hcl ⊢
  rw [show (namesF ⟨#[]⟩ fs).mergeSort leB = ns from hns.symm] at hcl
  have hmem : ∀ x ∈ ns, (⟨x.toArray⟩ : ByteArray) ∈ fs.map (·.name) := fun x hx => by
    rw [hns] at hx
    unfold sortedF namesF at hx
    rw [List.mem_mergeSort, List.mem_filter, List.mem_map] at hx
    obtain ⟨⟨y, hy, rfl⟩, _⟩ := hx
    exact List.mem_map.2 ⟨y, hy, by simp⟩
  have HNS := Lib.hid hns
  clear hns hn hsl
  go_wp2_with fail
  go_loopw [1, 17] (fun vc vi wr => Crashing base d f c m room fs ns cs gl offl gc w2.heap.size w vc vi wr) (fun _ vi _ => n - (RowKit.intOf vi).toNat)
  case atStart =>
    refine ⟨0, cs, fs, rfl, Nat.zero_le _, N2, hi.on fun h0 k hk => ?_, hr, hg, by simp, rfl, fun j hj => hcl j (by omega), Nat.le_refl _⟩
    have hk1 := hgc k (hg h0 k hk)
    rw [b2.block k (by have := t1.size; omega), t1.block k hk1.1 (fun e => hk1.2 (by rcases e with e | e; exact .inr (.inl e); exact .inr (.inr (.inl e))))]
  case round =>
    obtain ⟨i, cs', fs', rfl, hin, N, hi', hr', hg', hcr, hnm, hcl', hB2⟩ := hrel
    by_cases hlt : i < n
    · obtain ⟨ck, D⟩ := N.1
      obtain ⟨ni, hni⟩ : ∃ ni, ns[i]? = some ni := ⟨ns[i]'(by omega), List.getElem?_eq_getElem (by omega)⟩
      have hcell : wr.cell? ⟨gl, offl + i, none⟩ = some (.string ⟨ni.toArray⟩) := by rw [hcl' i (by omega), List.getElem?_map, hni]; rfl
      obtain ⟨hala, halb, halc⟩ := hal (by omega)
      subst hala
      have hdrop : ns.drop i = ni :: ns.drop (i + 1) := by
        obtain ⟨h1, h2⟩ := List.getElem?_eq_some_iff.1 hni
        rw [List.drop_eq_getElem_cons h1, h2]
      have hsome : (lookF ⟨ni.toArray⟩ fs').isSome := look_names _ _ (by rw [hnm]; exact hmem ni (List.mem_of_getElem? hni))
      obtain ⟨x, hx⟩ := Option.isSome_iff_exists.1 hsome
      obtain ⟨hxm, hxn⟩ := look_mem _ _ _ hx
      obtain ⟨a0, cap0, hxv⟩ := (D.files.sl x hxm).slice
      obtain ⟨m0, hm0⟩ : ∃ m0, m0 = x.data.length := ⟨_, rfl⟩
      rw [← hm0] at hxv
      have hsure : x.sure ≤ m0 := by rw [hm0]; exact D.files.sure x hxm
      have hm1 : m0 ≤ 1000000 := by
        have h1 := used_del x.name fs'
        have h2 : lenF x.name fs' = m0 := by unfold lenF; rw [hxn, hx]; exact hm0.symm
        have := D.small
        omega
      have c3 := D.c3
      have hl0 := run_look (P := Try.prog) (w := wr) Try.underlying30 Try.underlying9 (fval (.slice none 0 0) 0) zero_file D.map ⟨ni.toArray⟩ false
      rw [look_en, hx] at hl0
      simp only [Bool.false_eq_true, if_false, Option.map_some, Option.getD_some, Fl.en, hxv] at hl0
      unfold fval at hl0
      rw [hdrop] at hcr
      obtain ⟨s0, hs0⟩ : ∃ s0, s0 = x.sure := ⟨_, rfl⟩
      rw [← hs0] at hsure hl0
      have HCL := Lib.hid hcl'
      have HCR := Lib.hid hcr
      clear hcl' hcl hcr hdrop hni hsome
      by_cases hz : m0 = s0
      · subst hz
        have HM0 := Lib.hid hm0
        have HS0 := Lib.hid hs0
        clear hm0 hs0
        go_wp2_with fail
        refine ⟨⟨i + 1, cs', fs', by go_num, by omega, N.trans (Now.same D ((Below.refl _ wr).alloc (Nat.le_refl _) _)), hi'.on (fun h0 k hk => Below.heap_alloc _ _ _ ?_), hr', hg', ?_, hnm, fun j hj => (World.cell?_alloc_past _ _ _ (show gl < wr.heap.size by omega)).trans (HCL.out j hj), by simp; omega⟩, by simp [RowKit.intOf]; omega⟩
        · have h1 := (hgc k (hg' h0 k hk)).1
          have := N.2.1.size
          omega
        · have := HCR.out
          rw [crashL_same ni _ _ _ x hx (by have := HM0.out; have := HS0.out; omega)] at this
          exact this
      · have hzd : ((m0 : Int) - (s0 : Int) == 0) = false := by simp; omega
        have hzi : (s0 : Int) ≤ (m0 : Int) := by omega
        have HM0 := Lib.hid hm0
        have HS0 := Lib.hid hs0
        clear hm0 hs0
        -- what the three calls do
        have hlook : lenF ⟨ni.toArray⟩ fs' = m0 := by unfold lenF; rw [hx]; exact HM0.out.symm
        have hval : valF ⟨ni.toArray⟩ fs' = .slice a0 m0 cap0 := by unfold valF; rw [hx]; exact hxv
        have hap : ∀ k, ∀ y ∈ fs', y.name ≠ ⟨ni.toArray⟩ → ∀ i, (Value.slice a0 k cap0).ownBlock = some i → y.v.ownBlock ≠ some i := fun k => by
          rw [ownBlock_slice a0 k m0 cap0 cap0, ← hval]; exact files_apart D.files _
        have hsm := D.small
        have hfc := fun k (hk : k ≤ m0) => files_cut D.files x hxm a0 m0 cap0 k hxv hk
        have hm0c := (hfc 0 (Nat.zero_le _)).2.1
        have HPUT := Lib.hid (fun (k : Nat) (hk : k ≤ m0) (W : World) (b : Below wr.heap.size wr W) => dput_any base d f c m room fs' [] ck ⟨ni.toArray⟩ a0 k cap0 k (x.data.take k) W (D.below b) (by omega) (by rw [List.length_take, ← HM0.out]; omega) ((hfc k hk).1.on b) (Nat.le_refl _) (hap k))
        have HCUT := Lib.hid (fun (k : Nat) (hk : k ≤ m0) (W : World) => fcut_any a0 m0 cap0 k s0 W hk hm0c)
        have hdX : d < wr.heap.size := Nat.lt_of_lt_of_le D.dlt D.hb
        have hmX : m < wr.heap.size := Nat.lt_of_lt_of_le D.mlt D.hb
        clear hlook hval hap hfc hm0c
        cases cs' with
        | nil =>
          obtain ⟨av, capv, rfl⟩ := hi'.slice
          go_wp2_with fail
          have hblk := heap_alloc_new wr (.cells #[.slice a0 m0 cap0, .int .i64 s0] 53)
          obtain ⟨x0, x1, _, _⟩ := box2 hblk
          obtain ⟨k, hk⟩ : ∃ k, k = leftN x 0 := ⟨_, rfl⟩
          obtain ⟨r, hrr⟩ : ∃ r, r = (0 : Int) % ((m0 : Int) - (s0 : Int) + 1) := ⟨_, rfl⟩
          have hkr : (s0 : Int) + r = (k : Int) := by
            have h1 := HM0.out
            have h2 := HS0.out
            rw [hk, hrr]
            unfold leftN
            rw [← h1, ← h2, show ((m0 - s0 : Nat) + 1 : Int) = (m0 : Int) - (s0 : Int) + 1 by omega]
            have := Int.emod_nonneg (0 : Int) (show (m0 : Int) - (s0 : Int) + 1 ≠ 0 by omega)
            omega
          have hkm : k ≤ m0 := by
            have := (leftN_le x 0 (D.files.sure x hxm)).1
            have := HM0.out
            omega
          have w1k : IntKind.i64.wrap ((m0 : Int) - (s0 : Int) + 1) = (m0 : Int) - (s0 : Int) + 1 := IntWalk.i64_in _ (by omega)
          have w2k : IntKind.i64.wrap ((s0 : Int) + r) = (k : Int) := by rw [hkr]; exact IntWalk.i64_in _ (by omega)
          have M1 := Lib.hid (fun W => mod_any 0 ((m0 : Int) - (s0 : Int) + 1) W (by omega) (by omega))
          rw [← hrr] at M1
          have HK := Lib.hid hk
          have HKM := Lib.hid hkm
          clear hk hrr hkr hkm hzd
          have bX : Below wr.heap.size wr (wr.alloc (.cells #[.slice a0 m0 cap0, .int .i64 s0] 53)) := (Below.refl _ wr).alloc (Nat.le_refl _) _
          have zX : (wr.alloc (.cells #[.slice a0 m0 cap0, .int .i64 s0] 53)).heap.size = wr.heap.size + 1 := by simp
          have XL : wr.heap.size < (wr.alloc (.cells #[.slice a0 m0 cap0, .int .i64 s0] 53)).heap.size := by rw [zX]; omega
          have hXd : ¬ (wr.heap.size = d ∨ wr.heap.size = m) := by omega
          go_region_held3 (fun W => W.cell? ⟨wr.heap.size, 0, none⟩ = some (.slice a0 m0 cap0) ∧ W.cell? ⟨wr.heap.size, 1, none⟩ = some (.int .i64 s0)) (first | exact ⟨x0, x1⟩ | assumption)
            (first
              | (go_at_call 19; refine (M1.out _).mono ?_; rintro e w5 ⟨rfl, rfl⟩)
              | (go_at_call 18; refine (HCUT.out k HKM.out _).mono ?_; rintro e w5 ⟨rfl, b5⟩; unfold fval; have d5 := And.intro ((b5.cell (p := ⟨wr.heap.size, 0, none⟩) XL).trans x0) ((b5.cell (p := ⟨wr.heap.size, 1, none⟩) XL).trans x1))
              | (go_at_call 17; refine (HPUT.out k HKM.out w5 (bX.trans (((Below.refl _ (wr.alloc (.cells #[.slice a0 m0 cap0, .int .i64 s0] 53))).drew.trans b5).mono (Nat.le_of_lt XL)))).mono ?_; rintro e w6 ⟨rfl, D6, t6⟩; have d6 := And.intro ((t6.cell (p := ⟨wr.heap.size, 0, none⟩) (Nat.lt_of_lt_of_le XL b5.size) hXd).trans d5.1) ((t6.cell (p := ⟨wr.heap.size, 1, none⟩) (Nat.lt_of_lt_of_le XL b5.size) hXd).trans d5.2)))
          have b5r : Below wr.heap.size wr w5 := bX.trans (((Below.refl _ (wr.alloc (.cells #[.slice a0 m0 cap0, .int .i64 s0] 53))).drew.trans b5).mono (Nat.le_of_lt XL))
          go_wp2
          have NB := Now.put D.files.names (v := .slice a0 k cap0) (fun j hj => .inr (.inr (.inr (.inr ⟨x, hxm, by rw [hxv, ownBlock_slice a0 m0 k cap0 cap0]; exact hj⟩)))) b5r D6 t6
          have hz1 := t1.size
          have hzw := N.2.1.size
          have hkeep : ∀ q, gc = some q → w6.heap[q]? = wr.heap[q]? := fun q hq => by
            have h1 := hgc q hq
            rw [t6.block q (by have := b5r.size; omega) (fun e => h1.2 (by rcases e with e | e; exact .inl e; exact .inr (.inr (.inr (.inl e))))), b5r.block q (by omega)]
          refine ⟨⟨i + 1, [], setF ⟨ni.toArray⟩ (.slice a0 k cap0) (x.data.take k) k ck fs', by go_num, by omega, N.trans NB, hi'.on (fun h0 q hq => hkeep q (hg' h0 q hq)), hr', hg', ?_, ?_, fun j hj => ?_, ?_⟩, by simp [RowKit.intOf]; omega⟩
          · have h1 := HCR.out
            rw [crashL_cut ni _ _ _ x hx (by have := HM0.out; have := HS0.out; omega)] at h1
            simp only [List.headD_nil, List.tail_nil] at h1
            rw [← HK.out, hxn, hxv] at h1
            rw [set_b _ _ _ _ ck 0 _ (by rw [hx]; rfl)]
            exact h1
          · rw [set_names_eq _ _ _ _ _ _ (by rw [hx]; rfl)]
            exact hnm
          · rw [t6.cell (p := ⟨gl, offl + j, none⟩) (show gl < w5.heap.size by have := b5r.size; omega) (show ¬ (gl = d ∨ gl = m) by omega), b5r.cell (p := ⟨gl, offl + j, none⟩) (show gl < wr.heap.size by omega)]
            exact HCL.out j hj
          · have := t6.size
            have := b5r.size
            omega
        | cons c1 rest =>
          obtain ⟨ac, cap, rfl, hcap, hcx⟩ := hi'
          obtain ⟨g, off, rfl, hcc⟩ := hcx (by simp)
          clear hcx
          · have hc0 := hcc 0 (by simp)
            simp only [List.getD_cons_zero] at hc0
            have HCC := Lib.hid hcc
            clear hcc
            go_wp2_with fail
            have hblk := heap_alloc_new wr (.cells #[.slice a0 m0 cap0, .int .i64 s0] 53)
            obtain ⟨x0, x1, _, _⟩ := box2 hblk
            have hc1 : (wr.alloc (.cells #[.slice a0 m0 cap0, .int .i64 s0] 53)).cell? ⟨g, off, none⟩ = some (.int .i64 c1) := (World.cell?_alloc_past _ _ _ (show g < wr.heap.size by have := (hgc g (hg' (by simp) g rfl)).1; have := N.2.1.size; omega)).trans hc0
            go_quiet (fail)
            go_wp2_with fail
            all_goals
              have hr1 := hr'.2 c1 List.mem_cons_self
              obtain ⟨k, hk⟩ : ∃ k, k = leftN x c1 := ⟨_, rfl⟩
              obtain ⟨r, hrr⟩ : ∃ r, r = (c1 : Int) % ((m0 : Int) - (s0 : Int) + 1) := ⟨_, rfl⟩
              have hkr : (s0 : Int) + r = (k : Int) := by
                have h1 := HM0.out
                have h2 := HS0.out
                rw [hk, hrr]
                unfold leftN
                rw [← h1, ← h2, show ((m0 - s0 : Nat) + 1 : Int) = (m0 : Int) - (s0 : Int) + 1 by omega]
                have := Int.emod_nonneg (c1 : Int) (show (m0 : Int) - (s0 : Int) + 1 ≠ 0 by omega)
                omega
              have hkm : k ≤ m0 := by
                have := (leftN_le x c1 (D.files.sure x hxm)).1
                have := HM0.out
                omega
              have w1k : IntKind.i64.wrap ((m0 : Int) - (s0 : Int) + 1) = (m0 : Int) - (s0 : Int) + 1 := IntWalk.i64_in _ (by omega)
              have w2k : IntKind.i64.wrap ((s0 : Int) + r) = (k : Int) := by rw [hkr]; exact IntWalk.i64_in _ (by omega)
              have M1 := Lib.hid (fun W => mod_any c1 ((m0 : Int) - (s0 : Int) + 1) W (by omega) (by omega))
              rw [← hrr] at M1
              have HK := Lib.hid hk
              have HKM := Lib.hid hkm
              clear hk hrr hkr hkm hzd
              have bX : Below wr.heap.size wr ((wr.alloc (.cells #[.slice a0 m0 cap0, .int .i64 s0] 53)).drewN nq) := below_draw ((Below.refl _ wr).alloc (Nat.le_refl _) _) nq
              have zX : ((wr.alloc (.cells #[.slice a0 m0 cap0, .int .i64 s0] 53)).drewN nq).heap.size = wr.heap.size + 1 := by simp [World.drewN]
              have XL : wr.heap.size < ((wr.alloc (.cells #[.slice a0 m0 cap0, .int .i64 s0] 53)).drewN nq).heap.size := by rw [zX]; omega
              have hXd : ¬ (wr.heap.size = d ∨ wr.heap.size = m) := by omega
              go_region_held3 (fun W => W.cell? ⟨wr.heap.size, 0, none⟩ = some (.slice a0 m0 cap0) ∧ W.cell? ⟨wr.heap.size, 1, none⟩ = some (.int .i64 s0)) (first | exact ⟨x0, x1⟩ | assumption)
                (first
                  | (go_at_call 19; refine (M1.out _).mono ?_; rintro e w5 ⟨rfl, rfl⟩)
                  | (go_at_call 18; refine (HCUT.out k HKM.out _).mono ?_; rintro e w5 ⟨rfl, b5⟩; unfold fval; have d5 := And.intro ((b5.cell (p := ⟨wr.heap.size, 0, none⟩) XL).trans x0) ((b5.cell (p := ⟨wr.heap.size, 1, none⟩) XL).trans x1))
                  | (go_at_call 17; refine (HPUT.out k HKM.out w5 (bX.trans (((Below.refl _ ((wr.alloc (.cells #[.slice a0 m0 cap0, .int .i64 s0] 53)).drewN nq)).drew.trans b5).mono (Nat.le_of_lt XL)))).mono ?_; rintro e w6 ⟨rfl, D6, t6⟩; have d6 := And.intro ((t6.cell (p := ⟨wr.heap.size, 0, none⟩) (Nat.lt_of_lt_of_le XL b5.size) hXd).trans d5.1) ((t6.cell (p := ⟨wr.heap.size, 1, none⟩) (Nat.lt_of_lt_of_le XL b5.size) hXd).trans d5.2)))
              have b5r : Below wr.heap.size wr w5 := bX.trans (((Below.refl _ ((wr.alloc (.cells #[.slice a0 m0 cap0, .int .i64 s0] 53)).drewN nq)).drew.trans b5).mono (Nat.le_of_lt XL))
              go_wp2
              have NB := Now.put D.files.names (v := .slice a0 k cap0) (fun j hj => .inr (.inr (.inr (.inr ⟨x, hxm, by rw [hxv, ownBlock_slice a0 m0 k cap0 cap0]; exact hj⟩)))) b5r D6 t6
              have hz1 := t1.size
              have hzw := N.2.1.size
              have hkeep : ∀ q, gc = some q → w6.heap[q]? = wr.heap[q]? := fun q hq => by
                have h1 := hgc q hq
                rw [t6.block q (by have := b5r.size; omega) (fun e => h1.2 (by rcases e with e | e; exact .inl e; exact .inr (.inr (.inr (.inl e))))), b5r.block q (by omega)]
              refine ⟨⟨i + 1, rest, setF ⟨ni.toArray⟩ (.slice a0 k cap0) (x.data.take k) k ck fs', by go_num, by omega, N.trans NB, ?_, ?_, ?_, ?_, ?_, fun j hj => ?_, ?_⟩, by simp [RowKit.intOf]; omega⟩
              · first
                  | (refine ⟨some ⟨g, off + 1, none⟩, cap - 1, rfl, by simp only [List.length_cons] at hcap; omega, fun _ => ⟨g, off + 1, rfl, fun j hj => ?_⟩⟩
                     rw [World.cell?_of_block (a := ⟨g, off + 1 + j, none⟩) (hkeep g (hg' (by simp) g rfl)), show off + 1 + j = off + (j + 1) by omega, HCC.out (j + 1) (by simp only [List.length_cons]; omega)]
                     rfl)
                  | (have hnil : rest = [] := List.eq_nil_of_length_eq_zero (by simp only [List.length_cons] at hcap; omega)
                     subst hnil
                     exact ⟨_, _, rfl, by simp, fun h0 => absurd h0 (by simp)⟩)
              · exact ⟨by have := hr'.1; simp only [List.length_cons] at this; omega, fun y hy => hr'.2 y (List.mem_cons_of_mem _ hy)⟩
              · exact fun _ q hq => hg' (by simp) q hq
              · have h1 := HCR.out
                rw [crashL_cut ni _ _ _ x hx (by have := HM0.out; have := HS0.out; omega)] at h1
                simp only [List.headD_cons, List.tail_cons] at h1
                rw [← HK.out, hxn, hxv] at h1
                rw [set_b _ _ _ _ ck 0 _ (by rw [hx]; rfl)]
                exact h1
              · rw [set_names_eq _ _ _ _ _ _ (by rw [hx]; rfl)]
                exact hnm
              · rw [t6.cell (p := ⟨gl, offl + j, none⟩) (show gl < w5.heap.size by have := b5r.size; omega) (show ¬ (gl = d ∨ gl = m) by omega), b5r.cell (p := ⟨gl, offl + j, none⟩) (show gl < wr.heap.size by omega)]
                exact HCL.out j hj
              · have := t6.size
                have := b5r.size
                omega
    · go_wp2
      go_returns
      refine ⟨rfl, ?_⟩
      rw [List.drop_of_length_le (by omega)] at hcr
      rw [← HNS.out, ← hcr]
      exact N
end Go.Proofs.Ytiegokjdnlhlcaa

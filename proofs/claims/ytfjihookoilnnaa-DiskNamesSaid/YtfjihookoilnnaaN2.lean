/- DiskNames: its walk. -/
import Derived.Test.YtfjihookoilnnaaN1
namespace Go.Proofs.Ytfjihookoilnnaa
open Go.Conc Go.RowKit
set_option linter.unusedVariables false
open Go.Proofs (encStr)
open Go.ChangeMaps (setBlock)

theorem nodup_inj {α β : Type} (f : α → β) (hf : ∀ a b, f a = f b → a = b) : ∀ l : List α, l.Nodup → (l.map f).Nodup
  | [], _ => List.nodup_nil
  | e :: es, h => by
    rw [List.nodup_cons] at h
    rw [List.map_cons, List.nodup_cons]
    refine ⟨fun hm => ?_, nodup_inj f hf es h.2⟩
    obtain ⟨y, hy, he⟩ := List.mem_map.1 hm
    exact h.1 (hf y e he ▸ hy)
theorem bytes_less {a b : List UInt8} (h : a < b) : Op.bytesLess a b = true := by
  rw [bytesLess_eq]
  exact decide_eq_true h
/-- DiskNames' first loop. -/
def Naming (base d f c m mp : Nat) (w0 : World) (vi : Value) (wr : World) : Prop :=
  ∃ (i : Nat) (fs : List Fl) (es : List En) (ck ck2 : Nat), vi = .int .i64 i ∧ i ≤ 15 ∧ DiskAt base d f c m 1000 fs [] ck wr ∧ MapIs mp es ck2 wr ∧ Counted es fs ck2 i ∧ usedF fs ≤ i ∧ fs.length ≤ i ∧
    ¬ Mine d f c m fs mp ∧ mp < wr.heap.size ∧ Below w0.heap.size w0 wr
abbrev sX : ByteArray := ⟨#[120]⟩

/-- An Append of one byte. -/
theorem append_x (B base d f c m mp : Nat) (fs : List Fl) (clock i : Nat) (name : ByteArray) (w : World) (h : DiskAt base d f c m 1000 fs [] clock w) (hB : Home B base d f c m) (hn : 0 < name.size ∧ name.size ≤ 40) (hi : usedF fs ≤ i) (hi2 : i ≤ 15) (hm : ¬ Mine d f c m fs mp) (hml : mp < w.heap.size) :
    Calls Try.prog 37 #[.pointer (some ⟨d, 0, none⟩), .string name, .string sX] w fun e w' => e = .returned (.int .i64 0) ∧ ∃ v data s b ck, DiskAt base d f c m 1000 (setF name v data s b fs) [] ck w' ∧ usedF (setF name v data s b fs) ≤ i + 1 ∧ (setF name v data s b fs).length ≤ fs.length + 1 ∧
      ¬ Mine d f c m (setF name v data s b fs) mp ∧ Below B w w' ∧ w'.heap[mp]? = w.heap[mp]? ∧ mp < w'.heap.size := by
  have hx : sX.size = 1 := rfl
  refine (append_go base d f c m 1000 fs [] clock name sX w h hn (by rw [hx]; omega) (by rw [hx]; omega)).mono ?_
  rintro e w' ⟨rfl, v, n⟩
  have n' : Now base d f c m 1000 fs (setF name v (dataF name fs ++ sX.data.toList) (sureF name fs) clock fs) [] w w' := n
  have hb := n'.below h hB
  obtain ⟨⟨ck, D⟩, t, hmine⟩ := n'
  have hu := used_set name v (dataF name fs ++ sX.data.toList) (sureF name fs) clock fs
  have hl : (dataF name fs ++ sX.data.toList).length = lenF name fs + 1 := by
    rw [List.length_append]
    have := (files_val h.files name).2.2
    rw [this]
    rfl
  refine ⟨rfl, v, _, _, _, ck, D, by omega, set_len _ _ _ _ _ _, fun hk => ?_, hb, t.block mp hml hm, Nat.lt_of_lt_of_le hml t.size⟩
  rcases hmine mp hk with e | e
  · exact hm e
  · omega
theorem append_none (B base d f c m mp : Nat) (fs : List Fl) (clock : Nat) (name s : ByteArray) (w : World) (h : DiskAt base d f c m 1000 fs [] clock w) (hB : Home B base d f c m) (hn : ¬ (0 < name.size ∧ name.size ≤ 40)) (hm : ¬ Mine d f c m fs mp) (hml : mp < w.heap.size) :
    Calls Try.prog 37 #[.pointer (some ⟨d, 0, none⟩), .string name, .string s] w fun e w' => e = .returned (.int .i64 1) ∧ ∃ ck, DiskAt base d f c m 1000 fs [] ck w' ∧ Below B w w' ∧ w'.heap[mp]? = w.heap[mp]? ∧ mp < w'.heap.size := by
  refine (append_bad base d f c m 1000 fs [] clock name s w h hn).mono ?_
  rintro e w' ⟨rfl, n⟩
  have hb := n.below h hB
  obtain ⟨⟨ck, D⟩, t, hmine⟩ := n
  exact ⟨rfl, ck, D, hb, t.block mp hml hm, Nat.lt_of_lt_of_le hml t.size⟩

set_option maxHeartbeats 2000000 in
set_option maxRecDepth 100000 in
theorem dnames_any (a0 : Option Addr) (len0 cap0 : Nat) (z0 : List ByteArray) (a1 : ByteArray) (w : World) (m0 : len0 ≤ maxLen) (w0 : StrsAt w a0 len0 z0) (w1 : a1.size ≤ maxLen) :
    Calls Try.prog 11 #[.slice a0 len0 cap0, .string a1] w fun e w' => e = .returned (.bool true) ∧ Below w.heap.size w w' := by
  have hmm := @run_makeMap Try.prog
  have HNew := Lib.hid (fun W => new_home 1000 W (by decide) (by decide))
  have HAw := Lib.hid (fun W => dawake_any W)
  have HCut := Lib.hid (fun x W => show Calls Try.prog 18 #[.string x, .int .i64 40] W (fun e w' => e = .returned (.string (cutB x 40)) ∧ W = w') from cut_any x 40 W (by decide))
  obtain ⟨hzl, hzf, hza⟩ := w0
  go_enter Try.func11, Try.ntmps11
  go_wp2_with fail
  refine (HNew.out _).mono ?_
  rintro e x1 ⟨base, d, f, c, m, rfl, D1, hH, b1⟩
  go_wp2_with fail
  obtain ⟨x2, hx2⟩ : ∃ x2, x2 = x1.alloc (.map #[] 0) := ⟨_, rfl⟩
  have b2 : Below x1.heap.size x1 x2 := by rw [hx2]; exact (Below.refl _ _).alloc (Nat.le_refl _) _
  have M2 : MapIs x1.heap.size [] 0 x2 := by rw [hx2]; exact heap_alloc_new x1 _
  have z2 : x1.heap.size < x2.heap.size := by rw [hx2]; simp
  have D2 := D1.below b2
  have hmine : ¬ Mine d f c m [] x1.heap.size := fun hk => by have := Mine.lt D1 _ hk; omega
  have hmpB : w.heap.size ≤ x1.heap.size := b1.size
  have bA := below_step b1 b2
  rw [← hx2]
  obtain ⟨mp, hmp⟩ : ∃ mp, mp = x1.heap.size := ⟨_, rfl⟩
  rw [← hmp] at M2 z2 hmine hmpB ⊢
  refine (HAw.out _).mono ?_
  rintro e x3 ⟨rfl, b3⟩
  have D3 := D2.below b3
  have M3 : MapIs mp [] 0 x3 := M2.turn (S := fun _ => False) (Turn.of_below b3) (fun h => h)
  have z3 : mp < x3.heap.size := Nat.lt_of_lt_of_le z2 b3.size
  have bB := below_step bA b3
  clear hx2 hmp b1 b2 b3 D1 D2 M2 z2 bA
  go_wp2_with fail
  go_loopw [7] (fun vi wr => Naming base d f c m mp w vi wr) (fun vi _ => 15 - (RowKit.intOf vi).toNat)
  case atStart => exact ⟨0, [], [], 0, 0, rfl, by omega, D3, M3, ⟨by simp, rfl, by simp, by simp⟩, by simp [usedF], by simp, hmine, z3, bB⟩
  case round =>
    obtain ⟨i, fs, es, ck, ck2, rfl, hi, D, M, C, hu, hl, hmn, hml, bR⟩ := hrel
    by_cases hlt : i < len0 ∧ i < 15
    · obtain ⟨h3, h4⟩ := hlt
      obtain ⟨g, off, rfl, hg, hcell⟩ := hza (by omega)
      have r0 := (bR.cell (p := ⟨g, off + i, none⟩) hg).trans (hcell i (by omega))
      have i4 : (i : Int) < 15 := by omega
      obtain ⟨x, hx⟩ : ∃ x, x = z0.getD i ByteArray.empty := ⟨_, rfl⟩
      rw [← hx] at r0
      have K40 := Lib.hid (HCut.out x)
      obtain ⟨s40, hs40⟩ : ∃ s40, s40 = cutB x 40 := ⟨_, rfl⟩
      have h40 : s40.size ≤ 40 := by
        rw [hs40]
        obtain ⟨l, h, hl⟩ := cut_list x 40
        rw [h]
        simpa [bs, ByteArray.size] using hl
      rw [← hs40] at K40
      clear hx hs40 hcell hza hzf hzl
      have hl40 : s40.toList.length = s40.size := by rw [ByteArray.toList_eq, Array.length_toList]; rfl
      by_cases hemp : s40.toList = []
      · have hz : s40.size = 0 := by rw [← hl40, hemp]; rfl
        have HP := Lib.hid (append_none w.heap.size base d f c m mp fs ck s40 sX wr D hH (by omega) hmn hml)
        clear hz hl40
        go_wp2_with fail
        refine (K40.out _).mono ?_
        rintro e y1 ⟨rfl, rfl⟩
        go_wp2_with fail
        refine HP.out.mono ?_
        rintro e y2 ⟨rfl, ck', D6, b6, hb6, z6⟩
        go_wp2_with fail
        have M6 : MapIs mp es ck2 y2 := hb6.trans M
        exact ⟨⟨i + 1, fs, es, ck', ck2, by go_num, by omega, D6, M6, C.more, by omega, by omega, hmn, z6, bR.trans b6⟩, by simp [RowKit.intOf]; omega⟩
      · have hz : 0 < s40.size := by
          rcases Nat.eq_zero_or_pos s40.size with h0 | h0
          · exact absurd (List.eq_nil_of_length_eq_zero (hl40.trans h0)) hemp
          · exact h0
        have hemp2 : s40.toList.isEmpty = false := by simpa using hemp
        have HP := Lib.hid (append_x w.heap.size base d f c m mp fs ck i s40 wr D hH ⟨hz, h40⟩ hu hi hmn hml)
        clear hz hl40
        go_wp2_with fail
        refine (K40.out _).mono ?_
        rintro e y1 ⟨rfl, rfl⟩
        go_wp2_with fail
        refine HP.out.mono ?_
        rintro e y2 ⟨rfl, v, data, s, b, ck', D6, hu6, hl6, hmn6, b6, hb6, z6⟩
        have M6 : MapIs mp es ck2 y2 := hb6.trans M
        obtain ⟨cv, hcv1, hcv2⟩ := count_val C.logged s40
        have HC := Lib.hid (C.set s40 v data s b)
        obtain ⟨cn, hcn⟩ : ∃ cn, cn = countE s40 es := ⟨_, rfl⟩
        rw [← hcn] at cv hcv1 HC
        have hl0 := run_look (P := Try.prog) (w := y2) Try.underlying48 Try.underlying9 (.int .i64 0) zero_int M6 s40 false
        have hst := run_store (P := Try.prog) (w := y2) Try.underlying48 Try.underlying9 M6 s40 (.int .i64 ((cn : Int) + 1))
        rw [cv] at hl0
        simp only [Bool.false_eq_true, if_false] at hl0
        obtain ⟨ck5, hck5⟩ : ∃ ck5, ck5 = if (lookE s40 es).isSome then ck2 else ck2 + 1 := ⟨_, rfl⟩
        rw [← hck5] at hst HC
        obtain ⟨W5, hW5⟩ : ∃ W5, W5 = World.putMap y2 mp (setE s40 (.int .i64 ((cn : Int) + 1)) ck2 es) ck5 := ⟨_, rfl⟩
        rw [← hW5] at hst
        have M5 : MapIs mp (setE s40 (.int .i64 ((cn : Int) + 1)) ck2 es) ck5 W5 := by rw [hW5]; exact mapIs_put z6 _ _
        have t5 : Turn (fun j => j = mp) y2 W5 := by rw [hW5]; exact turn_put (S := fun j => j = mp) rfl _ _
        have D5 := D6.other t5 hmn6
        have b5 : Below w.heap.size y2 W5 := t5.below (by have := bR.size; have := b6.size; omega) (fun j hj => by omega)
        have HW5 := Lib.hid hW5; have HCK5 := Lib.hid hck5; have HCN := Lib.hid hcn
        clear hW5 hck5 hcn cv hcv2 C
        go_wp2_with fail
        exact ⟨⟨i + 1, _, _, ck', ck5, by go_num, by omega, D5, M5, HC.out, hu6, by omega, hmn6, Nat.lt_of_lt_of_le z6 t5.size, (bR.trans b6).trans b5⟩, by simp [RowKit.intOf]; omega⟩
    · clear hza hzf hzl
      by_cases h3 : i < len0
      all_goals
        first
          | (have i20 : i = 15 := by omega
             subst i20)
          | skip
        clear hlt
        have HL := Lib.hid (list_any base d f c m 1000 fs [] ck a1 wr D (by omega))
        go_wp2_with fail
        refine HL.out.mono ?_
        rintro e x5 ⟨v, rfl, hsl, b5⟩
        have M5 : MapIs mp es ck2 x5 := M.turn (S := fun _ => False) (Turn.of_below b5) (fun h => h)
        have hrg := run_range_map (P := Try.prog) x5 48 9 3 mp (entsE es) ck2 Try.underlying48 M5
        obtain ⟨R, hR⟩ : ∃ R, R = x5.heap.size := ⟨_, rfl⟩
        obtain ⟨x6, hx6⟩ : ∃ x6, x6 = x5.alloc (.mapIter (some mp) ck2 #[] ck2) := ⟨_, rfl⟩
        have hit6 : x6.heap[R]? = some (.mapIter (some mp) ck2 #[] ck2) := by rw [hx6, hR]; exact heap_alloc_new x5 _
        have b6 : Below R x5 x6 := by rw [hx6, hR]; exact (Below.refl _ _).alloc (Nat.le_refl _) _
        have z6 : R < x6.heap.size := by rw [hx6, hR]; simp
        have hz6 : x6.heap.size = R + 1 := by rw [hx6, hR]; simp
        have HZ6 := Lib.hid hz6
        clear hz6
        have hml5 : mp < R := by rw [hR]; exact Nat.lt_of_lt_of_le hml b5.size
        have hvR : ∀ k, v.ownBlock = some k → k < R := fun k hk => by rw [hR]; exact (hsl.lt k hk).2
        have hsl6 : Sl x6 wr.heap.size 1 v (namesF a1 fs).length (((namesF a1 fs).mergeSort leB).map encStr) := hsl.same (by have := b6.size; omega) fun k hk => b6.block k (by rw [hR]; exact (hsl.lt k hk).2)
        rw [← hR, ← hx6] at hrg
        have bRR : Below w.heap.size w x5 := below_step bR b5
        have hRw : w.heap.size ≤ R := by rw [hR]; exact bRR.size
        clear hx6 hR
        go_wp2_with fail
        go_loopw [11] (fun vw wr2 => ∃ (vs : List En) (c0 : Nat), (vs.map (·.born)).Nodup ∧ (∀ x ∈ vs, x ∈ es) ∧ wr2.heap[R]? = some (.mapIter (some mp) ck2 (vs.map (·.born)).toArray c0) ∧ ck2 ≤ c0 ∧
          vw = .int .i64 (wantE a1 vs) ∧ Below R x5 wr2 ∧ (∀ k, k ≠ R → wr2.heap[k]? = x6.heap[k]?) ∧ R < wr2.heap.size) (fun _ wr2 => es.length - iterSeen R wr2)
        case atStart =>
          exact ⟨[], ck2, by simp, by simp, hit6, Nat.le_refl _, rfl, b6, fun _ _ => rfl, z6⟩
        case round =>
          obtain ⟨vs, c0, hvn, hsub, hit, hcc, rfl, hbel, hoth, hlt⟩ := hrel
          have hmr : wr.heap[mp]? = some (.map (entsE es) ck2) := (hbel.block mp hml5).trans M5
          have hold : ∀ x ∈ (entsE es).toList, x.born < ck2 := fun e he => by
            simp only [List.mem_map] at he
            obtain ⟨x, hx, rfl⟩ := he
            exact C.stamps.1 x hx
          rcases run_next_at (P := Try.prog) wr 0 R mp ck2 c0 (vs.map (·.born)).toArray (entsE es) ck2 hit hmr hold hcc with ⟨h0, hn⟩ | ⟨e, hmem, w1', hw1, hn⟩
          · have hall := left_noneE es vs h0
            have hperm := borns_permE es vs C.stamps.2 (nodup_of_map _ vs hvn) hsub hall
            have hwe : wantE a1 vs = (namesF a1 fs).length := by
              rw [← want_names C.names]
              unfold wantE
              exact ((hperm.map _).filter _).length_eq
            rw [hwe]
            obtain ⟨N, hN⟩ : ∃ N, N = (namesF a1 fs).length := ⟨_, rfl⟩
            obtain ⟨ss, hss⟩ : ∃ ss, ss = (namesF a1 fs).mergeSort leB := ⟨_, rfl⟩
            have hslE := hsl6.same (w' := wr) (by have := HZ6.out; omega) (fun k hk => hoth k (by have := hvR k hk; omega))
            rw [← hN, ← hss] at hslE
            rw [← hN]
            have hsl1 : ss.length = N := by rw [hss, hN]; exact List.length_mergeSort _
            have hN15 : N ≤ 15 := by
              rw [hN]; unfold namesF
              exact Nat.le_trans (List.length_filter_le _ _) (by simp; omega)
            have tr : ∀ a b c : List UInt8, leB a b = true → leB b c = true → leB a c = true := fun a b c h1 h2 => by simp only [leB, decide_eq_true_eq] at *; exact List.le_trans h1 h2
            have to : ∀ a b : List UInt8, (leB a b || leB b a) = true := fun a b => by simp only [leB, Bool.or_eq_true, decide_eq_true_eq]; exact List.le_total a b
            have hsort : ss.Pairwise fun a b => a < b := by
              have h1 : ss.Pairwise (fun a b => leB a b = true) := by rw [hss]; exact List.pairwise_mergeSort tr to _
              have hnd : (namesF a1 fs).Nodup := by
                unfold namesF
                refine List.Nodup.sublist List.filter_sublist ?_
                have := D.files.names
                have e : fs.map nm = (fs.map (·.name)).map (fun b : ByteArray => b.data.toList) := by rw [List.map_map]; rfl
                rw [e]
                exact nodup_inj _ (fun a b h => by apply ByteArray.ext; exact Array.ext' h) _ this
              have h2 : ss.Nodup := by rw [hss]; exact (List.mergeSort_perm _ leB).nodup_iff.2 hnd
              have h3 : ss.Pairwise fun a b => leB a b = true ∧ a ≠ b := List.pairwise_and_iff.2 ⟨h1, h2⟩
              refine h3.imp ?_
              rintro a b ⟨h4, h5⟩
              simp only [leB, decide_eq_true_eq] at h4
              rcases bytes_tri a b with h | h | h
              · exact h
              · exact absurd h h5
              · exact absurd h (List.not_lt.2 h4)
            have hin : ∀ q ∈ ss, pre a1.data.toList q = true ∧ (lookE ⟨q.toArray⟩ es).isSome = true := fun q hq => by
              rw [hss] at hq
              have hq2 := (List.mergeSort_perm _ leB).mem_iff.1 hq
              unfold namesF at hq2
              obtain ⟨h1, h2⟩ := List.mem_filter.1 hq2
              refine ⟨h2, look_namesE _ _ ?_⟩
              rw [C.names]
              obtain ⟨y, hy, rfl⟩ := List.mem_map.1 h1
              exact List.mem_map.2 ⟨y, hy, rfl⟩
            have HSO := Lib.hid hsort; have HIN := Lib.hid hin
            have ME : MapIs mp es ck2 wr := hmr
            have bE : Below w.heap.size w wr := bRR.trans (hbel.mono hRw)
            obtain ⟨a2, cap2, gl, ol, rfl, hlp, hcl⟩ := sl_open hslE
            have HSL1 := Lib.hid hsl1; have HNN := Lib.hid hN
            clear hN hss hsl1 tr to hsort hin hall hperm hwe hslE hsl6 hsl hvR hit hmr hold h0 hoth hrg HL hvn hsub b6 hit6 HZ6
            go_wp2_with fail
            go_loopw [74] (fun vj wr2 => ∃ j : Nat, vj = .int .i64 j ∧ j ≤ N ∧ wr2 = wr) (fun vj _ => N - (RowKit.intOf vj).toNat)
            case atStart => exact ⟨0, rfl, by omega, rfl⟩
            case round =>
              obtain ⟨j, rfl, hj, hww⟩ := hrel
              rename World => wr'
              subst hww
              by_cases hjn : j < N
              · obtain ⟨rfl, hlg, hgl⟩ := hlp (by omega)
                have hlen := HSL1.out
                obtain ⟨sj, hsj⟩ : ∃ sj, ss[j]? = some sj := ⟨ss[j]'(by omega), List.getElem?_eq_getElem (by omega)⟩
                obtain ⟨hp1, hp2⟩ := HIN.out sj (List.mem_of_getElem? hsj)
                obtain ⟨x, hx⟩ : ∃ x : ByteArray, x = ⟨sj.toArray⟩ := ⟨_, rfl⟩
                rw [← hx] at hp2
                have hxl : x.data.toList = sj := by rw [hx]
                have r0 : wr'.cell? ⟨gl, ol + j, none⟩ = some (.string x) := by
                  have := hcl j hjn
                  rw [List.getElem?_map, hsj] at this
                  rw [hx]; exact this
                obtain ⟨cv, hcv1, hcv2⟩ := count_val C.logged x
                have hcv3 := hcv2 hp2
                obtain ⟨cn, hcn⟩ : ∃ cn, cn = countE x es := ⟨_, rfl⟩
                rw [← hcn] at cv hcv1 hcv3
                have hl0 := run_look (P := Try.prog) (w := wr') Try.underlying48 Try.underlying9 (.int .i64 0) zero_int ME x false
                rw [cv] at hl0
                simp only [Bool.false_eq_true, if_false] at hl0
                have e2 : ((cn : Int) == 0) = false := by simp; omega
                have he := ext_is x a1
                rw [hxl, hp1] at he
                have hsz : a1.size ≤ x.size := by
                  have := (of_decide_eq_true (show decide (a1.data.toList <+: sj) = true from hp1)).length_le
                  have h1 : a1.data.toList.length = a1.size := Array.length_toList
                  have h2 : x.data.toList.length = x.size := Array.length_toList
                  rw [hxl] at h2
                  omega
                have hsz' : ¬ x.size < a1.size := by omega
                have hjn' : (j : Int) < N := by omega
                cases j with
                | zero =>
                  rw [Nat.add_zero] at r0
                  clear hlen hsj hx hxl hcv2 hcn cv hcl hlp
                  go_wp2_with fail
                  exact ⟨⟨1, rfl, by omega, trivial⟩, by simp [RowKit.intOf]; omega⟩
                | succ j =>
                  obtain ⟨sk, hsk⟩ : ∃ sk, ss[j]? = some sk := ⟨ss[j]'(by omega), List.getElem?_eq_getElem (by omega)⟩
                  have r1 : wr'.cell? ⟨gl, ol + j, none⟩ = some (.string ⟨sk.toArray⟩) := by
                    have := hcl j (by omega)
                    rw [List.getElem?_map, hsk] at this
                    exact this
                  have hless : sk < sj := by
                    have := List.pairwise_iff_getElem.1 HSO.out j (j + 1) (by omega) (by omega) (by omega)
                    rw [List.getElem?_eq_some_iff] at hsk hsj
                    obtain ⟨_, h1⟩ := hsk
                    obtain ⟨_, h2⟩ := hsj
                    rw [h1, h2] at this
                    exact this
                  have hbl : Op.bytesLess sk x.toList = true := by
                    rw [ByteArray.toList_eq, hxl]
                    exact bytes_less hless
                  clear hlen hsj hx hxl hcv2 hcn cv hcl hlp hsk
                  go_wp2_with fail
                  exact ⟨⟨j + 1 + 1, by go_num, by omega, trivial⟩, by simp [RowKit.intOf]; omega⟩
              · have hjj : j = N := by omega
                subst hjj
                clear hcl hlp
                go_wp2_with fail
                go_ret
                exact ⟨rfl, bE⟩
          · obtain ⟨x, hx, rfl, hxn⟩ := left_someE es vs e hmem
            obtain ⟨W1, hW1⟩ : ∃ W1, W1 = setBlock w1' R (.mapIter (some mp) ck2 ((vs.map (·.born)).toArray.push x.ent.born) ck2) := ⟨_, rfl⟩
            rw [← hW1] at hn
            have z1 : W1.heap.size = wr.heap.size := by rw [hW1]; rcases hw1 with rfl | rfl <;> simp [setBlock]
            have hr1 : W1.heap[R]? = some (.mapIter (some mp) ck2 ((vs.map (·.born)).toArray.push x.ent.born) ck2) := by rw [hW1]; rcases hw1 with rfl | rfl <;> simp [setBlock, hlt]
            have hb1 : ∀ k, k ≠ R → W1.heap[k]? = wr.heap[k]? := fun k hk => by
              rw [hW1]
              rcases hw1 with rfl | rfl
              · simp [setBlock, Array.getElem?_setIfInBounds_ne (Ne.symm hk)]
              · simp [setBlock, Array.getElem?_setIfInBounds_ne (Ne.symm hk)]; rfl
            have hbel1 : Below R x5 W1 := by
              refine ⟨?_, ?_, ?_, by have := hbel.size; omega, fun k hk => (hb1 k (by omega)).trans (hbel.block k hk)⟩
              all_goals rw [hW1]; rcases hw1 with rfl | rfl
              · exact hbel.os
              · exact hbel.os
              · exact hbel.tape
              · exact hbel.tape
              · exact hbel.output
              · exact hbel.output
            have hen := run_entry_at (P := Try.prog) W1 R mp ck2 (vs.map (·.born)).toArray (entsE es) ck2 x.ent hr1 ((hb1 mp (by omega)).trans hmr) (by simp only; exact List.mem_map.2 ⟨x, hx, rfl⟩) (by
              have := C.stamps.2
              simpa [entsE, List.map_map, Function.comp_def, En.ent] using this)
            have hlen := borns_lenE es vs hvn hsub x hx hxn
            have hitL : iterSeen R W1 = vs.length + 1 := by unfold iterSeen; rw [hr1]; simp
            have hitO : iterSeen R wr = vs.length := by unfold iterSeen; rw [hit]; simp
            have hpush : (vs.map (·.born)).toArray.push x.ent.born = ((vs ++ [x]).map (·.born)).toArray := by simp [En.ent]
            rw [hpush] at hr1
            obtain ⟨cv, hcv, _, _⟩ := C.vals x hx
            simp only [En.ent, hcv] at hn hen
            have hwant : ∀ b, pre a1.data.toList x.name.data.toList = b → wantE a1 (vs ++ [x]) = wantE a1 vs + (if b then 1 else 0) := fun b hb => by
              unfold wantE; rw [List.map_append, List.filter_append, List.length_append]; congr 1; simp only [List.map_singleton, List.filter_cons, List.filter_nil, hb]; cases b <;> rfl
            have hsub1 : ∀ y ∈ vs ++ [x], y ∈ es := fun y hy => by
              rw [List.mem_append, List.mem_singleton] at hy
              rcases hy with hy | rfl
              · exact hsub y hy
              · exact hx
            have hvn1 := borns_nextE vs hvn x hxn
            have hoth1 : ∀ k, k ≠ R → W1.heap[k]? = x6.heap[k]? := fun k hk => (hb1 k hk).trans (hoth k hk)
            have hwb : wantE a1 vs ≤ 15 := by
              have h1 : wantE a1 vs ≤ vs.length := by unfold wantE; exact Nat.le_trans (List.length_filter_le _ _) (by simp)
              have h2 : es.length = fs.length := by have := congrArg List.length C.names; simpa using this
              omega
            have he := ext_is x.name a1
            obtain ⟨nm, hnm⟩ : ∃ nm, nm = x.name := ⟨_, rfl⟩
            rw [← hnm] at he hn hen hwant
            obtain ⟨W0, hW0⟩ : ∃ W0, W0 = wantE a1 vs := ⟨_, rfl⟩
            rw [← hW0] at hwb hwant ⊢
            clear hW1 hw1 hold hmem hit hmr hnm hcv hW0
            by_cases hsz : a1.size ≤ nm.size
            · cases hpre : pre a1.data.toList nm.data.toList
              · rw [hpre] at he hwant
                have HW := Lib.hid (hwant false rfl)
                clear hwant
                go_wp2_with fail
                exact ⟨⟨vs ++ [x], ck2, hvn1, hsub1, hr1, Nat.le_refl _, by rw [HW.out]; rfl, hbel1, hoth1, by omega⟩, by rw [hitL, hitO]; omega⟩
              · rw [hpre] at he hwant
                have HW := Lib.hid (hwant true rfl)
                clear hwant
                go_wp2_with fail
                exact ⟨⟨vs ++ [x], ck2, hvn1, hsub1, hr1, Nat.le_refl _, by rw [HW.out]; rfl, hbel1, hoth1, by omega⟩, by rw [hitL, hitO]; omega⟩
            · have hpre : pre a1.data.toList nm.data.toList = false := by
                unfold pre
                rw [decide_eq_false_iff_not]
                intro hp
                have := hp.length_le
                have h1 : a1.data.toList.length = a1.size := Array.length_toList
                have h2 : nm.data.toList.length = nm.size := Array.length_toList
                omega
              have HW := Lib.hid (hwant false hpre)
              clear hwant he hpre
              go_wp2_with fail
              exact ⟨⟨vs ++ [x], ck2, hvn1, hsub1, hr1, Nat.le_refl _, by rw [HW.out]; rfl, hbel1, hoth1, by omega⟩, by rw [hitL, hitO]; omega⟩
end Go.Proofs.Ytfjihookoilnnaa

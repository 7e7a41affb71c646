/- Layer 6: made. -/
import Derived.Test.YtfdbhmdaiihmhaaDoorLM
import Derived.Test.YtfdbhmdaiihmhaaDoorLB
namespace Go.Proofs.YtfdbhmdaiihmhaaDoor
open Go.RowKit Go.Lib

/-- '[]byte(s)'. -/
theorem bytes_conv (w : World) (t : List UInt8) (ht : t.length ≤ maxLen) :
    ∃ cap W, (convert 9 86 (.string (bs t))).run Tryd.prog w = .ok (.slice (some ⟨w.heap.size, 0, none⟩) t.length cap) W ∧ Sl W w.heap.size 1 (.slice (some ⟨w.heap.size, 0, none⟩) t.length cap) t.length (cb t) ∧ Below w.heap.size w W := by
  have hcv := run_bytes_of_string (P := Tryd.prog) w 9 86 5 (bs t) Tryd.underlying9 Tryd.underlying86 Tryd.underlying5
  have hsl := Sl.of_text w 5 (bs t) (by rw [bs_size]; exact ht)
  have e1 : strCells (bs t) = cb t := rfl
  rw [e1, bs_size] at hsl
  rw [bs_size] at hcv
  exact ⟨_, _, hcv, hsl, (Below.refl _ w).drew.alloc (Nat.le_refl _) _⟩
theorem encode_bs (k : Int) : ∃ l, Utf8.encode k = bs l ∧ l.length ≤ 4 := by
  refine ⟨(Utf8.encode k).data.toList, (bs_of _).symm, ?_⟩
  unfold Utf8.encode
  simp only
  repeat (first | split | simp)
def encR (k : Int) : List UInt8 := (Utf8.encode k).data.toList
theorem encR_bs (k : Int) : Utf8.encode k = bs (encR k) := (bs_of _).symm
theorem encR_len (k : Int) : (encR k).length ≤ 4 := by
  obtain ⟨l, h1, h2⟩ := encode_bs k
  unfold encR
  rw [h1]
  exact h2
theorem PB.f {P : Nat} {x : Pr} {w : World} (h : PB P x w) (j : Nat) : w.frozen? ⟨P, j, none⟩ = false := by
  unfold PB at h
  simp [World.frozen?, h]
theorem byte_sl {w : World} {base g n c : Nat} {l : List UInt8} (h : Sl w base 1 (.slice (some ⟨g, 0, none⟩) n c) n (cb l)) (j : Nat) (z : UInt8) (hz : l[j]? = some z) : w.cell? ⟨g, j, none⟩ = some (.int .u8 z.toNat) := by
  have hl := h.1
  have hj : j < l.length := (List.getElem?_eq_some_iff.1 hz).1
  rw [cb_length] at hl
  rcases h.2 with ⟨h0, _⟩ | ⟨g', off', cap', he, _, _, _, _, _, h6⟩
  · cases h0
  · cases he
    have := h6 j (by omega)
    rw [Nat.zero_add] at this
    rw [this]
    simp [cb, hz]
theorem PB.set0 {P : Nat} {x : Pr} {w : World} (h : PB P x w) (l : List UInt8) : PB P ⟨l, x.v⟩ (w.setCell ⟨P, 0, none⟩ (.string (bs l))) := by
  unfold PB at h ⊢
  rw [heap_setCell_same w P 0 _ _ _ h]
  rfl
theorem PB.set1 {P : Nat} {x : Pr} {w : World} (h : PB P x w) (l : List UInt8) : PB P ⟨x.n, l⟩ (w.setCell ⟨P, 1, none⟩ (.string (bs l))) := by
  unfold PB at h ⊢
  rw [heap_setCell_same w P 1 _ _ _ h]
  rfl
/-- What made answers. -/
def MadeSet (w : World) (e : Ending) (w' : World) : Prop :=
  ∃ v, e = .returned v ∧ Below w.heap.size w w' ∧ (v = .slice none 0 0 ∨ ∃ ds, Sl w' w.heap.size 2 v ds.length (prc ds) ∧ chk ds = true ∧ ∀ x ∈ ds, 44 ∉ x.v)
set_option maxHeartbeats 4000000 in
set_option maxRecDepth 100000 in
theorem made_any (a0 : Option Addr) (n cap : Nat) (ds : List Pr) (w : World) (m0 : n ≤ maxLen) (w0 : PrsAt w a0 n ds) :
    Calls Tryd.prog 38 #[.slice a0 n cap] w (MadeSet w) := by
  obtain ⟨i0, hi0, hz0, hz1, hz2⟩ := info_parts zc_pair
  have Hz := Lib.hid hz0; have Hs := Lib.hid hz1; have Hb := Lib.hid hz2; have Hi := Lib.hid hi0
  clear hz0 hz1 hz2 hi0
  have HN := Lib.hid w0.1
  have HG := Lib.hid w0.2
  unfold maxLen at m0
  obtain ⟨G, hGe⟩ : ∃ G, G = w.heap.size := ⟨_, rfl⟩
  have HGe := Lib.hid hGe
  clear w0 hGe
  go_enter Tryd.func38, Tryd.ntmps38
  go_wp2_with fail
  go_loopw [3, 4] (fun o' i' wr => ∃ (i : Nat) (es : List Pr), i' = .int .i64 i ∧ i ≤ n ∧ i ≤ 8 ∧ Hid (es.length = i) ∧ Hid (∀ x ∈ es, 44 ∉ x.v) ∧ Sl wr G 2 o' es.length (prc es) ∧ Below G w wr) (fun _ i' _ => 8 - (intOf i').toNat)
  case atStart => exact ⟨0, [], rfl, by omega, by omega, rfl, Lib.hid (fun x h => by simp at h), Sl.nil _ _ _, by rw [HGe.out]; exact Below.refl _ _⟩
  case round =>
    obtain ⟨W0, rfl⟩ : ∃ W0, W0 = wr := ⟨_, rfl⟩
    obtain ⟨i, es, rfl, hi, hi8, hel, hev, hs, hb⟩ := hrel
    obtain ⟨va, vc, rfl⟩ := hs.slice
    have hGw : G ≤ W0.heap.size := by have := hb.size; have := HGe.out; omega
    by_cases hlt : i < n ∧ i < 8
    · obtain ⟨hln, hl8⟩ := hlt
      obtain ⟨g, off, rfl, hgl, hcc⟩ := HG.out (by omega)
      obtain ⟨x, hx⟩ : ∃ x, ds[i]? = some x := ⟨ds[i]'(by have := HN.out; omega), List.getElem?_eq_getElem (by have := HN.out; omega)⟩
      obtain ⟨v0, v1⟩ := hcc i x hx
      have hgl' : g < G := by rw [HGe.out]; exact hgl
      have q0 := (hb.cell (p := ⟨g, off + i * 2, none⟩) hgl').trans v0
      have q1 := (hb.cell (p := ⟨g, off + i * 2 + 1, none⟩) hgl').trans v1
      clear hcc
      have hgw : g ≠ W0.heap.size := by omega
      have hil : (i : Int) < n := by omega
      have hil8 : (i : Int) < 8 := by omega
      obtain ⟨c0, hc0, hc0l⟩ := cut_list (bs x.n) 3
      obtain ⟨c1, hc1, hc1l⟩ := cut_list (bs x.v) 3
      have C0 := Lib.hid (fun W => cut_is (bs x.n) c0 3 3 rfl hc0 W)
      have C1 := Lib.hid (fun W => cut_is (bs x.v) c1 3 3 rfl hc1 W)
      have hb0 : Below G w (W0.alloc (.cells #[.string ⟨#[110]⟩, .string ⟨#[118]⟩] 82)) := hb.alloc hGw _
      have q2 := (hb0.cell (p := ⟨g, off + i * 2, none⟩) hgl').trans ((hb.cell (p := ⟨g, off + i * 2, none⟩) hgl').symm.trans q0)
      have hpb0 := PB.new W0 ⟨[110], [118]⟩
      have hs0 := hs.alloc (.cells #[.string ⟨#[110]⟩, .string ⟨#[118]⟩] 82)
      clear v0 v1 hx hc0 hc1
      go_wp2_with fail
      refine (C0.out _).mono ?_
      rintro e w1 ⟨rfl, rfl⟩
      obtain ⟨cap0, w2, r2, s2, b2⟩ := bytes_conv (W0.alloc (.cells #[.string ⟨#[110]⟩, .string ⟨#[118]⟩] 82)) c0 (by unfold maxLen; omega)
      go_wp2_with fail
      have pb2 : PB W0.heap.size ⟨[110], [118]⟩ w2 := (b2.block W0.heap.size (by simp)).trans hpb0
      have bw2 : Below W0.heap.size W0 w2 := ((Below.refl _ _).alloc (Nat.le_refl _) _).trans (b2.mono (by simp))
      rw [World.size_alloc] at s2
      clear b2 r2 hs0 hpb0 q2 hb0
      have hgP : g < W0.heap.size := by omega
      go_loopw [31] (fun j' w' => ∃ (j : Nat) (y : Pr), j' = .int .i64 j ∧ j ≤ c0.length ∧ Hid (y.v = [118]) ∧ y.n.length ≤ 1 + 4 * j ∧ PB W0.heap.size y w' ∧ Sl w' (W0.heap.size + 1) 1 (.slice (some ⟨W0.heap.size + 1, 0, none⟩) c0.length cap0) c0.length (cb c0) ∧ Below W0.heap.size W0 w') (fun j' _ => c0.length - (intOf j').toNat)
      case atStart => exact ⟨0, ⟨[110], [118]⟩, rfl, by omega, rfl, by simp, pb2, s2, bw2⟩
      case round =>
        obtain ⟨j, y, rfl, hj, hyv, hyn, hpb, hsb, hbw⟩ := hrel
        clear s2 pb2 bw2
        by_cases hlt : j < c0.length
        · have hjl : (j : Int) < c0.length := by omega
          have k0 := hpb.c0; have k1 := hpb.c1; have k2 := hpb.f 0; have k3 := hpb.f 1
          obtain ⟨z, hz⟩ : ∃ z, c0[j]? = some z := ⟨c0[j], List.getElem?_eq_getElem hlt⟩
          obtain ⟨zi, hbc⟩ : ∃ zi : Int, wr.cell? ⟨W0.heap.size + 1, j, none⟩ = some (.int .u8 zi) := ⟨z.toNat, byte_sl hsb j z hz⟩
          obtain ⟨r, hr⟩ : ∃ r, zi.tmod 26 = r := ⟨_, rfl⟩


          obtain ⟨el, hel1, hel2⟩ := encode_bs ((97 + r) % 256)
          have hA := bs_append y.n el
          have l1 := bs_size_le y.n 17 (by omega)
          have l2 := bs_size_le el 4 (by omega)
          have hO := hbw.size
          have HPB := Lib.hid (hpb.set0 (y.n ++ el)); have HSB := Lib.hid (hsb.same (w' := wr.setCell ⟨W0.heap.size, 0, none⟩ (.string (bs (y.n ++ el)))) (by simp [World.setCell]) fun k hk => Below.heap_setCell _ _ _ _ (by show k ≠ W0.heap.size; have := (hsb.lt k hk).1; omega)); have HBW := Lib.hid (hbw.setCell (p := ⟨W0.heap.size, 0, none⟩) (Nat.le_refl _) (.string (bs (y.n ++ el))))
          clear hpb hsb hbw hz hO
          go_wp2_with fail
          exact ⟨⟨j + 1, ⟨y.n ++ el, y.v⟩, by simp, by omega, hyv, by rw [List.length_append]; omega, HPB.out, HSB.out, HBW.out⟩, by simp [intOf]; omega⟩
        · have hjl : ¬ (j : Int) < c0.length := by omega
          have q3 := (hbw.cell (p := ⟨g, off + i * 2 + 1, none⟩) hgP).trans q1
          obtain ⟨W1, rfl⟩ : ∃ W1, W1 = wr := ⟨_, rfl⟩
          obtain ⟨cap1, w3, r3, s3, b3⟩ := bytes_conv W1 c1 (by unfold maxLen; omega)
          have hlt0 : W0.heap.size < W1.heap.size := (Array.getElem?_eq_some_iff.1 hpb).1
          have pb3 : PB W0.heap.size y w3 := (b3.block W0.heap.size hlt0).trans hpb
          have bw3 : Below W0.heap.size W0 w3 := hbw.trans (b3.mono (by omega))
          clear hpb hsb hbw b3
          have hyv1 := hyv.out
          go_wp2_with fail
          refine (C1.out _).mono ?_
          rintro e w1 ⟨rfl, rfl⟩
          go_wp2_with fail
          clear r3
          go_loopw [53] (fun j' w' => ∃ (j : Nat) (y : Pr), j' = .int .i64 j ∧ j ≤ c1.length ∧ Hid (44 ∉ y.v) ∧ y.v.length ≤ 1 + j ∧ y.n.length ≤ 20 ∧ PB W0.heap.size y w' ∧ Sl w' W1.heap.size 1 (.slice (some ⟨W1.heap.size, 0, none⟩) c1.length cap1) c1.length (cb c1) ∧ Below W0.heap.size W0 w') (fun j' _ => c1.length - (intOf j').toNat)
          case atStart => exact ⟨0, y, rfl, by omega, Lib.hid (by rw [hyv1]; decide), by rw [hyv1]; simp, by omega, pb3, s3, bw3⟩
          case round =>
            clear s3 pb3 bw3
            obtain ⟨j, y, rfl, hj, hyv, hyl, hyn, hpb, hsb, hbw⟩ := hrel
            by_cases hlt : j < c1.length
            · have hjl : (j : Int) < c1.length := by omega
              obtain ⟨z, hz⟩ : ∃ z, c1[j]? = some z := ⟨c1[j], List.getElem?_eq_getElem hlt⟩
              have hbc : wr.cell? ⟨W1.heap.size, j, none⟩ = some (.int .u8 z.toNat) := byte_sl hsb j z hz
              have k0 := hpb.c0; have k1 := hpb.c1; have k2 := hpb.f 0; have k3 := hpb.f 1
              by_cases hz4 : z = 44
              · subst hz4
                have hzt : ((44 : UInt8).toNat : Int) = 44 := rfl
                rw [hzt] at hbc
                have HPB := Lib.hid hpb; have HSB := Lib.hid hsb; have HBW := Lib.hid hbw
                clear hpb hsb hbw hz hzt
                go_wp2_with fail
                exact ⟨⟨j + 1, y, by simp, by omega, hyv, by omega, hyn, HPB.out, HSB.out, HBW.out⟩, by simp [intOf]; omega⟩
              · have hne : ((z.toNat : Int) != 44) = true := by
                  simp only [bne_iff_ne, ne_eq]
                  intro h
                  exact hz4 (UInt8.toNat_inj.1 (by show z.toNat = 44; omega))
                have hA := bs_append y.v [z]
                have l1 := bs_size_le y.v 5 (by omega)
                have l2 := bs_size_le [z] 1 (by simp)
                have hO := hbw.size
                have hlit := text_conv (l := [z]) (Sl.lit wr wr.heap.size 1 1 #[.int .u8 z.toNat] 5 (Nat.le_refl _) (by decide) rfl)
                have hW1 : W1.heap.size < wr.heap.size := by have := (hsb.lt _ rfl).2; exact this
                have hpb4 : PB W0.heap.size y (wr.alloc (.cells #[.int .u8 z.toNat] 5)) := (Below.heap_alloc _ _ _ (by omega)).trans hpb
                have k4 := hpb4.c0; have k5 := hpb4.c1; have k6 := hpb4.f 0; have k7 := hpb4.f 1
                have HPB := Lib.hid (hpb4.set1 (y.v ++ [z])); have HSB := Lib.hid ((hsb.alloc (.cells #[.int .u8 z.toNat] 5)).same (w' := (wr.alloc (.cells #[.int .u8 z.toNat] 5)).setCell ⟨W0.heap.size, 1, none⟩ (.string (bs (y.v ++ [z])))) (by simp [World.setCell]) fun k hk => Below.heap_setCell _ _ _ _ (by show k ≠ W0.heap.size; have := ((hsb.alloc (.cells #[.int .u8 z.toNat] 5)).lt k hk).1; omega))
                have HBW := Lib.hid ((hbw.alloc hO (.cells #[.int .u8 z.toNat] 5)).setCell (p := ⟨W0.heap.size, 1, none⟩) (Nat.le_refl _) (.string (bs (y.v ++ [z]))))
                clear hpb hsb hbw hz hO hpb4
                go_wp2_with fail
                exact ⟨⟨j + 1, ⟨y.n, y.v ++ [z]⟩, by simp, by omega, Lib.hid (by have := hyv.out; simp only [List.mem_append, List.mem_singleton, not_or]; exact ⟨this, fun e => hz4 e.symm⟩), by simp only [List.length_append, List.length_singleton]; omega, hyn, HPB.out, HSB.out, HBW.out⟩, by simp [intOf]; omega⟩
            · have hjl : ¬ (j : Int) < c1.length := by omega
              have k0 := hpb.c0; have k1 := hpb.c1
              have hO := hbw.size
              have hsY : Sl (wr.alloc (.cells #[.string (bs y.n), .string (bs y.v)] 82)) G 2 (.slice va es.length vc) es.length (prc es) := (hs.on hbw).alloc _
              have hlit := Sl.lit wr wr.heap.size 2 1 #[.string (bs y.n), .string (bs y.v)] 82 (Nat.le_refl _) (by decide) rfl
              have hbY : G ≤ (wr.alloc (.cells #[.string (bs y.n), .string (bs y.v)] 82)).heap.size := by simp; omega
              have hB4 : Below G w (wr.alloc (.cells #[.string (bs y.n), .string (bs y.v)] 82)) := (hb.trans (hbw.mono hGw)).alloc (by omega) _
              have n1 : es.length + 1 ≤ maxLen := by have := hel.out; unfold maxLen; omega
              have n2 : (es.length + 1) * 32 ≤ 140737488355328 := by have := hel.out; omega
              have HB4 := Lib.hid hB4
              have hvb : ∀ k, (Value.slice va es.length vc).ownBlock = some k → G ≤ k := fun k e => (hs.lt k e).1
              have HVB := Lib.hid hvb
              clear hpb hsb hbw hb hB4 hvb hs
              go_wp2_with (at_builtin; refine wpList_append_sl2 _ rfl _ _ 22 rfl G 82 i0 (.agg #[.string ⟨#[]⟩, .string ⟨#[]⟩]) 2 32 Tryd.underlying22 Hi.out Hz.out Hs.out Hb.out rfl (by decide) _ es.length _ rfl hsY wr.heap.size _ 1 [.string (bs y.n), .string (bs y.v)] rfl hlit (prc_one [y]) n1 n2 hbY ?_; intro v' w3 hx; have hnow := hx.now; obtain ⟨vb, vd, rfl⟩ := hnow.slice)
              refine ⟨⟨i + 1, es ++ [y], by simp, by omega, by omega, Lib.hid (by have := hel.out; simp [this]), Lib.hid ?_, ?_, ?_⟩, by simp [intOf]; omega⟩
              · intro x hx
                rcases List.mem_append.1 hx with hx | hx
                · exact hev.out x hx
                · rw [List.mem_singleton.1 hx]; exact hyv.out
              · rw [List.length_append, List.length_singleton, prc_append]
                exact hnow
              · exact HB4.out.grown hx.grown hbY (fun k e => HVB.out k e)
    · have hel' := hel.out
      have hm := make_any (.slice va es.length vc) es G W0 hs (by omega)
      have HM := Lib.hid hm
      have HB := Lib.hid hb
      clear hm hs hel' hb
      have hsp : ∀ x ∈ sortP es, 44 ∉ x.v := fun x hx => hev.out x ((sortP_perm es).mem_iff.1 hx)
      have HSP := Lib.hid hsp
      clear hsp
      have hGw' := HGe.out
      rw [hGw'] at hGw HB
      clear hGw'
      by_cases hln : i < n
      · have hl8 : ¬ i < 8 := fun h => hlt ⟨hln, h⟩
        have hil : (i : Int) < n := by omega
        have hil8 : ¬ (i : Int) < 8 := by omega
        clear hlt
        go_wp2_with fail
        refine HM.out.mono ?_
        rintro e w1 ⟨v', rfl, hs1, hb1⟩
        have HB1 := Lib.hid (HB.out.trans (hb1.mono hGw)); have HS1 := Lib.hid (hs1.mono hGw)
        clear hs1 hb1
        cases hc : chk (sortP es)
        · have e0 : cE false = 12 := rfl
          rw [e0]
          go_wp2
          go_ret
          exact ⟨_, rfl, HB1.out, .inl rfl⟩
        · have e0 : cE true = 0 := rfl
          rw [e0]
          go_wp2
          go_ret
          exact ⟨_, rfl, HB1.out, .inr ⟨sortP es, HS1.out, hc, HSP.out⟩⟩
      · have hil : ¬ (i : Int) < n := by omega
        clear hlt
        go_wp2_with fail
        refine HM.out.mono ?_
        rintro e w1 ⟨v', rfl, hs1, hb1⟩
        have HB1 := Lib.hid (HB.out.trans (hb1.mono hGw)); have HS1 := Lib.hid (hs1.mono hGw)
        clear hs1 hb1
        cases hc : chk (sortP es)
        · have e0 : cE false = 12 := rfl
          rw [e0]
          go_wp2
          go_ret
          exact ⟨_, rfl, HB1.out, .inl rfl⟩
        · have e0 : cE true = 0 := rfl
          rw [e0]
          go_wp2
          go_ret
          exact ⟨_, rfl, HB1.out, .inr ⟨sortP es, HS1.out, hc, HSP.out⟩⟩
end Go.Proofs.YtfdbhmdaiihmhaaDoor

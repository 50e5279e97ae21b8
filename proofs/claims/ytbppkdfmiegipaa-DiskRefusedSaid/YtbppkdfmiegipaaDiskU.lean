/- Proves DiskRefused of layer 3 (disks), for every input, with no condition: calls that answer an error turn nothing but the power. -/
import Derived.Test.YtbppkdfmiegipaaDiskX
import Derived.Test.YtbppkdfmiegipaaSame
namespace Go.Proofs.Ytbppkdfmiegipaa
open Go.ChangeShapes Go.WideShapes Go.ChangeAt Go.RowKit Go.Maps

theorem alike_dirty {s t : DS} (h : Alike s t) : s.dirty = t.dirty := by unfold DS.dirty; rw [h.1, h.2.2]
theorem alike_start {s t : DS} (h : Alike s t) (ks : List Bool) : Alike (s.cut.start ks).2 (t.cut.start ks).2 ∧ (s.cut.start ks).2.on = true ∧ (t.cut.start ks).2.on = true := by
  obtain ⟨n, p, c, o, f⟩ := s
  obtain ⟨n', p', c', o', f'⟩ := t
  obtain ⟨h1, h2, h3⟩ := h
  simp only at h1 h2 h3
  subst h1 h2 h3
  exact ⟨⟨rfl, rfl, rfl⟩, rfl, rfl⟩
theorem alike_read {s t : DS} (h : Alike s t) (h1 : s.on = true) (h2 : t.on = true) {j : Nat} (hj : j < s.n) : ∃ x, s.read j = (x, 0) ∧ t.read j = (x, 0) := by
  refine ⟨s.look j, ?_, ?_⟩
  · unfold DS.read
    rw [if_neg (fun h => h ⟨by omega, by omega⟩), if_pos h1]; rfl
  · unfold DS.read
    rw [if_neg (fun h' => h' ⟨by omega, by have := h.1; omega⟩), if_pos h2]
    simp only [DS.look, Int.toNat_natCast, h.2.1, h.2.2]

set_option maxRecDepth 100000 in
set_option maxHeartbeats 4000000 in
theorem diskRefused_walk (z : Int) (S : Option Addr) (sn sc : Nat) (l : List ActV) (kd : Nat) (i : Int) (A B : Option Addr) (n c m d : Nat) (xs : List UInt8) (ks : List Bool) (w : World) (hz : -9223372036854775808 ≤ z ∧ z ≤ 9223372036854775807)
    (hl : (Shp.slice actShp 64).R w [.slice S sn sc] l) (hsn : sn ≤ 9223372036854775807) (hkd : kd < 256) (hi : -9223372036854775808 ≤ i ∧ i ≤ 9223372036854775807) (hx : Bs w A n xs) (hA : A = none → n = 0 ∧ c = 0) (hnc : n ≤ c) (hk : Bls w B m ks) (hm : m ≤ 9223372036854775807) :
    Calls Try.prog 6 #[.int .i64 z, .slice S sn sc, .agg #[.int .u8 (kd : Int), .int .i64 i, .slice A n c, .slice B m d]] w fun e w' => e = .returned (.bool true) ∧ Below w.heap.size w w' := by
  obtain ⟨r, hr, hr15⟩ := and15 z
  have hXA := rd_block hx
  have hXB := rd_block hk
  go_enter Try.func6, Try.ntmps6
  go_wp2_with fail
  have ha1 := Blk.new w 36 #[.int .u8 (kd : Int), .int .i64 i, .slice A n c, .slice B m d] rfl
  have hb1 : Below w.heap.size w (w.alloc (.cells #[.int .u8 (kd : Int), .int .i64 i, .slice A n c, .slice B m d] 36)) := (Below.refl _ w).alloc (Nat.le_refl _) _
  have hs1 : (w.alloc (.cells #[.int .u8 (kd : Int), .int .i64 i, .slice A n c, .slice B m d] 36)).heap.size = w.heap.size + 1 := by simp
  generalize (w.alloc (.cells #[.int .u8 (kd : Int), .int .i64 i, .slice A n c, .slice B m d] 36)) = w1 at *
  refine (new_ (r + 1) w1 (by omega) (by omega)).mono ?_
  rintro e w2 ⟨g, rfl, hg, h2, hb2⟩
  have hl2 := h2.lt
  go_wp2_with fail
  refine (new_ (r + 1) w2 (by omega) (by omega)).mono ?_
  rintro e w3 ⟨g2, rfl, hg2, k3, hb3⟩
  have h3 := h2.below hb3
  go_wp2_with fail
  refine (alive_ _).mono ?_
  rintro e w4 ⟨rfl, hb4⟩
  have h4 := h3.below hb4
  have k4 := k3.below hb4
  have hgg : g + 3 ≤ g2 := by omega
  have hg0 : w.heap.size < g := by omega
  have ha4 := ((ha1.keep hb2).keep hb3).keep hb4
  have hB4 : Below w.heap.size w w4 := hb1.trans (((hb2.trans (hb3.mono hb2.size)).trans (hb4.mono (by have := hb2.size; have := hb3.size; omega))).mono hb1.size)
  have hn4 : (DS.fresh (r + 1)).n = r + 1 := rfl
  generalize DS.fresh (r + 1) = s4 at *
  clear h2 h3 k3 hb2 hb3 hb4 hb1 ha1 hl2 hs1 hg hg2
  go_wp2_with fail
  go_loopw [51] (fun iv wr => ∃ (k : Nat) (s : DS), k ≤ sn ∧ iv = .int .i64 (k : Int) ∧ Dk wr g s ∧ Dk wr g2 s ∧ s.n = r + 1 ∧ Blk wr w.heap.size 36 #[.int .u8 (kd : Int), .int .i64 i, .slice A n c, .slice B m d] ∧ Below w.heap.size w wr) (fun iv _ => sn - (intOf iv).toNat)
  case atStart => exact ⟨0, s4, Nat.zero_le _, rfl, h4, k4, hn4, ha4, hB4⟩
  case round =>
    obtain ⟨k, s, hkk, rfl, hs, ks', hn, ha, hb⟩ := hrel
    clear h4 hn4 hB4 k4 ha4
    have hgl := hs.lt
    have hgl2 := ks'.lt
    by_cases hlt : k < sn
    · obtain ⟨b, o, rfl, kd1, i1, A1, B1, n1, c1, m1, d1, xs1, ks1, hkd1, hi1, e0, e1, e2, e3, q1, q2, q3, q4, q5, q6, q7, _⟩ := acts_later hl hb hlt
      have hkl : (k : Int) < (sn : Int) := by omega
      have el := cell_lt e0
      have hbv := hb.size
      have ht' : Tn 0 0 wr (wr.alloc (.cells #[.int .u8 (kd1 : Int), .int .i64 i1, .slice A1 n1 c1, .slice B1 m1 d1] 36)) := Tn.alloc _ _
      have hac := Blk.new wr 36 #[.int .u8 (kd1 : Int), .int .i64 i1, .slice A1 n1 c1, .slice B1 m1 d1] rfl
      have hb' := ht'.only (Nat.le_refl _)
      clear hl
      go_wp2_with fail
      refine (does_ g s kd1 i1 A1 B1 n1 c1 m1 d1 xs1 ks1 _ (hs.below hb') hkd1 hi1 (q1.below hb') q2 q3 (Rd.below q4 hb') q5 (fun a ha h0 => by have := q6 a ha h0; omega) (fun a ha h0 => by have := q7 a ha h0; omega)).mono ?_
      rintro e w5 ⟨rfl, h5, ht5⟩
      have hac5 := ht5.blk hac (by omega)
      have a0 := hac5.cell (j := 0) (u := .int .u8 (kd1 : Int)) rfl
      have a1 := hac5.cell (j := 1) (u := .int .i64 i1) rfl
      have a2 := hac5.cell (j := 2) (u := .slice A1 n1 c1) rfl
      have a3 := hac5.cell (j := 3) (u := .slice B1 m1 d1) rfl
      have k5 := (ks'.below hb').tn ht5 (by omega)
      have ha5 := ht5.blk (ha.keep hb') (by omega)
      have q15 := ht5.bs (q1.below hb') (fun a ha h0 => by have := q6 a ha h0; omega)
      have q45 : Bls w5 B1 m1 ks1 := ht5.rd (Rd.below q4 hb') (fun a ha h0 => by have := q7 a ha h0; omega)
      have hB5 : Below w.heap.size w w5 := (hb.alloc hb.size _).trans (ht5.below (by omega) (by simp; omega))
      have hl5 := h5.lt
      clear hs ks' ht5 hb ha hb' ht' hac e0 e1 e2 e3 q1 q4
      go_wp2_with fail
      refine (does_ g2 s kd1 i1 A1 B1 n1 c1 m1 d1 xs1 ks1 _ k5 hkd1 hi1 q15 q2 q3 q45 q5 (fun a ha h0 => by have := q6 a ha h0; omega) (fun a ha h0 => by have := q7 a ha h0; omega)).mono ?_
      rintro e w6 ⟨rfl, k6, ht6⟩
      have h6 := h5.tn ht6 (by omega)
      have ha6 := ht6.blk ha5 (by omega)
      have hB6 : Below w.heap.size w w6 := hB5.trans (ht6.below (by omega) (by omega))
      have hn5 := (does_n s kd1 i1 xs1 ks1).trans hn
      generalize (s.does kd1 i1 xs1 ks1).2 = s5 at *
      clear h5 k5 ha5 hB5 ht6 hac5 a0 a1 a2 a3 q15 q45
      go_wp2
      go_roundw
      case rel => exact ⟨k + 1, s5, by omega, by go_num, h6, k6, hn5, ha6, hB6⟩
      case measure => simp [intOf]; omega
    · clear hl hkk
      have a0 := ha.cell (j := 0) (u := .int .u8 (kd : Int)) rfl
      have a1 := ha.cell (j := 1) (u := .int .i64 i) rfl
      have a2 := ha.cell (j := 2) (u := .slice A n c) rfl
      have a3 := ha.cell (j := 3) (u := .slice B m d) rfl
      have kk : 0 ≤ (kd : Int) := by omega
      by_cases e3 : kd % 7 = 3
      · have q := mod7 e3
        clear e3
        go_wp2
        go_ret
        exact ⟨rfl, hb⟩
      by_cases e4 : kd % 7 = 4
      · have q := mod7 e4
        clear e3 e4
        go_wp2
        go_ret
        exact ⟨rfl, hb⟩
      have q3 : ((kd : Int) % 7 == 3) = false := by rw [beq_eq_false_iff_ne]; omega
      have q4 : ((kd : Int) % 7 == 4) = false := by rw [beq_eq_false_iff_ne]; omega
      have hbs := hb.size
      have hx6 := hx.below hb
      have hk6 : Bls wr B m ks := Rd.below hk hb
      have hal := fun h => refused_alike (s := s) (kd := kd) (i := i) (xs := xs) (ks := ks) e3 e4 h
      have Hal := Lib.hid hal
      clear hal e3 e4
      go_wp2_with fail
      refine (does_ g s kd i A B n c m d xs ks _ hs hkd hi hx6 hA hnc hk6 hm (fun a ha h0 => by have := hXA a ha h0; omega) (fun a ha h0 => by have := hXB a ha h0; omega)).mono ?_
      cases hd : (s.does kd i xs ks).1 with
      | true =>
        clear hd
        rintro e w7 ⟨rfl, h7, ht7⟩
        have hB7 : Below w.heap.size w w7 := hb.trans (ht7.below (by omega) (by omega))
        go_wp2
        go_ret
        exact ⟨rfl, hB7⟩
      | false =>
        have hal := Hal.out hd
        have hn7 := (does_n s kd i xs ks).trans hn
        clear hd Hal
        rintro e w7 ⟨rfl, h7, ht7⟩
        have hB7 : Below w.heap.size w w7 := hb.trans (ht7.below (by omega) (by omega))
        have k7 := ks'.tn ht7 (by omega)
        have ha7 := ht7.blk ha (by omega)
        have hk7 : Bls w7 B m ks := ht7.rd hk6 (fun a ha h0 => by have := hXB a ha h0; omega)
        have hl7 := h7.lt
        have hl72 := k7.lt
        generalize (s.does kd i xs ks).2 = s7 at *
        have HD := Lib.hid (alike_dirty hal)
        have hst := alike_start hal ks
        clear hs ks' hb hx6 hk6 ht7 a0 a1 a2 a3 ha hbs hgl hgl2 q3 q4 hx
        go_wp2_with fail
        refine (dirty_ g s7 _ h7).mono ?_
        rw [HD.out]
        rintro e w' ⟨rfl, rfl⟩
        go_wp2_with fail
        refine (dirty_ g2 s _ k7).mono ?_
        rintro e w' ⟨rfl, rfl⟩
        go_wp2_with fail
        refine (cut_ g s7 _ h7).mono ?_
        rintro e w8 ⟨rfl, h8, ht8⟩
        have k8 := k7.tn ht8 (by omega)
        have ha8 := ht8.blk ha7 (by omega)
        have hk8 : Bls w8 B m ks := ht8.rd hk7 (fun a ha h0 => by have := hXB a ha h0; omega)
        have hB8 : Below w.heap.size w w8 := hB7.trans (ht8.below (by omega) (by omega))
        have hl8 := k8.lt
        clear h7 k7 ha7 hk7 hB7 ht8 hl7 hl72
        go_wp2_with fail
        refine (cut_ g2 s _ k8).mono ?_
        rintro e w9 ⟨rfl, k9, ht9⟩
        have h9 := h8.tn ht9 (by omega)
        have ha9 := ht9.blk ha8 (by omega)
        have hk9 : Bls w9 B m ks := ht9.rd hk8 (fun a ha h0 => by have := hXB a ha h0; omega)
        have hB9 : Below w.heap.size w w9 := hB8.trans (ht9.below (by omega) (by omega))
        have hl9 := k9.lt
        have a3 := ha9.cell (j := 3) (u := .slice B m d) rfl
        clear h8 k8 ha8 hk8 hB8 ht9 hl8
        go_wp2_with fail
        refine (start_ g s7.cut B m d ks _ h9 hk9 hm (fun a ha h0 => by have := hXB a ha h0; omega)).mono ?_
        rintro e w10 ⟨rfl, h10, ht10⟩
        have k10 := k9.tn ht10 (by omega)
        have ha10 := ht10.blk ha9 (by omega)
        have hk10 : Bls w10 B m ks := ht10.rd hk9 (fun a ha h0 => by have := hXB a ha h0; omega)
        have hB10 : Below w.heap.size w w10 := hB9.trans (ht10.below (by omega) (by omega))
        have hl10 := k10.lt
        have a3' := ha10.cell (j := 3) (u := .slice B m d) rfl
        clear h9 k9 ha9 hk9 hB9 ht10 hl9 a3
        go_wp2_with fail
        refine (start_ g2 s.cut B m d ks _ k10 hk10 hm (fun a ha h0 => by have := hXB a ha h0; omega)).mono ?_
        rintro e w11 ⟨rfl, k11, ht11⟩
        have h11 := h10.tn ht11 (by omega)
        have hB11 : Below w.heap.size w w11 := hB10.trans (ht11.below (by omega) (by omega))
        have hn11 : (s7.cut.start ks).2.n = r + 1 := (start_n s7.cut ks).trans hn7
        generalize (s7.cut.start ks).2 = t1 at *
        generalize (s.cut.start ks).2 = t2 at *
        obtain ⟨hal2, on1, on2⟩ := hst
        have Hrd := Lib.hid (fun (j : Nat) (hj : j < r + 1) => alike_read hal2 on1 on2 (j := j) (by rw [hn11]; exact hj))
        clear h10 k10 ha10 hk10 hB10 ht11 hl10 a3' hal2 on1 on2 hn11 HD hal hn7 hn
        go_wp2_with fail
        obtain ⟨wo, hwo⟩ : ∃ wo : World, wo = wr := ⟨_, rfl⟩
        clear hwo
        go_loopw [95] (fun iv wr => ∃ k : Nat, k ≤ r + 1 ∧ iv = .int .i64 (k : Int) ∧ Dk wr g t1 ∧ Dk wr g2 t2 ∧ Below w.heap.size w wr) (fun iv _ => r + 1 - (intOf iv).toNat)
        case atStart => exact ⟨0, Nat.zero_le _, rfl, h11, k11, hB11⟩
        case round =>
          obtain ⟨k2, hk2, rfl, hs, ks2, hb⟩ := hrel
          clear h11 k11 hB11
          have hgl := hs.lt
          have hgl2 := ks2.lt
          by_cases hlt2 : k2 < r + 1
          · obtain ⟨x, hx1, hx2⟩ := Hrd.out k2 hlt2
            have HX1 := Lib.hid hx1
            have HX2 := Lib.hid hx2
            have hkl : (k2 : Int) < (r : Int) + 1 := by omega
            clear hx1 hx2
            go_wp2_with fail
            refine (read_ g t1 k2 _ hs).mono ?_
            rw [HX1.out]
            rintro e w12 ⟨v12, rfl, hgot12, hpl, hb12⟩
            have hpq : x.length = 64 := hpl rfl
            clear hpl
            obtain ⟨hf, _⟩ | ⟨qa, rfl, _, hqa, hka⟩ := hgot12
            · have hf : x = [] := hf
              rw [hf] at hpq
              cases hpq
            have h12 := hs.below hb12
            have k12 := ks2.below hb12
            have hB12 : Below w.heap.size w w12 := hb.trans (hb12.mono hb.size)
            clear hs ks2 hb hb12 hqa
            go_wp2_with fail
            refine (read_ g2 t2 k2 _ k12).mono ?_
            rw [HX2.out]
            rintro e w13 ⟨v13, rfl, hgot13, _, hb13⟩
            obtain ⟨hf, _⟩ | ⟨qb, rfl, _, hqb, hkb⟩ := hgot13
            · have hf : x = [] := hf
              rw [hf] at hpq
              cases hpq
            have h13 := h12.below hb13
            have k13 := k12.below hb13
            have hB13 : Below w.heap.size w w13 := hB12.trans (hb13.mono hB12.size)
            have hsa := bs_blk (hka.keep hb13)
            have hsb := bs_blk hkb
            simp only at hsa hsb
            rw [hpq] at hsa hsb
            clear h12 k12 hB12 hb13 hka hkb hqb
            go_wp2_with fail
            refine (same_ _ _ 64 64 64 64 x x _ hsa hsb (by simp) (by simp)).mono ?_
            rw [beq_self_eq_true]
            rintro e w' ⟨rfl, rfl⟩
            go_wp2
            go_roundw
            case rel => exact ⟨k2 + 1, by omega, by go_num, h13, k13, hB13⟩
            case measure => simp [intOf]; omega
          · go_wp2
            go_ret
            exact ⟨rfl, hb⟩

theorem diskRefused_lifted (os : Os) (started : os.Started) (H : Type) (enc : TypeId × Value → H) :
    ReturnsInHanded {} Try.checked os 6 .any (Rows.diskRefusedSpec.pre6 enc Try.prog Try.f6 Rows.diskRefusedRow.domain false) (Rows.diskRefusedSpec.post enc Try.prog Try.f6 false true false false) := by
  refine law_lifted (C := Try.checked) (tb := 4) own_ started (by kernel_rfl) Try.func6
    (ChangeSpec.witness6 (enc := enc) (C := Try.checked) false ⟨#[], #[.int .i64 0, .slice none 0 0, .agg #[.int .u8 0, .int .i64 0, .slice none 0 0, .slice none 0 0]], []⟩ 8 (by kernel_rfl) (by kernel_rfl) (by kernel_rfl) (by kernel_rfl))
    rfl rfl Try.underlying4 laidOut_ (by kernel_rfl) (fun ds h => by match ds, h with | [_, _, _], _ => rfl) ?_
  intro W base args ds p hval0 hA0 _ hsz0
  have hval : ∀ (j : Nat) t v, Try.f6.params[j]? = some t → args[j]? = some v → Value.okWide Try.prog W .any base t v := hval0
  have hA : DataW.TrodAll enc Try.prog W 0 (fun _ => true) true Try.f6.params.toList args.toList ds p := hA0
  have hsz : (DataW.weightsEach Try.prog Try.f6.params.toList ds).all (· ≤ reachBytes) = true := hsz0
  clear hval0 hA0 hsz0
  rw [Try.params6] at hA hval hsz
  obtain ⟨v0, v1, v2, d0, d1, d2, p0, p1, p2, rfl, rfl, rfl, h0, h1, h2⟩ := trodAll_three hA
  obtain ⟨z0, rfl, hz0⟩ := arg_int _ _ Try.underlying3 (hval 0 _ v0 rfl rfl) h0 wf_i64
  obtain ⟨A1, n1, c1, xs1, rfl, r1, b1⟩ := arg_slice ops_acts Try.underlying22 (hval 1 _ v1 rfl rfl) h1 (weight_at hsz (j := 1) rfl rfl)
  obtain ⟨cs2, a2, rfl, r2, b2⟩ := arg_struct ops_act Try.underlying36 (hval 2 _ v2 rfl rfl) h2 (weight_at hsz (j := 2) rfl rfl)
  obtain ⟨A, n, c, B, m, d, rfl, q1, q2, q3, q4, q5, q6, q7, q8, q9, q10⟩ := act_arr r2
  exact diskRefused_walk z0 A1 n1 c1 xs1 _ _ A B n c m d _ _ W hz0 r1 (acts_len r1) (UInt8.toNat_lt _) ⟨q9, q10⟩ q1 q2 q3 q5 (by omega)

/-- DiskRefused, for every input: the statement as it was given. -/
theorem diskRefused_holds : Rows.DiskRefusedSaid :=
  OpenClaim.holds_of_wide 6 Try.f6 rfl rfl rfl rfl rfl rfl rfl ⟨rfl, rfl, rfl, rfl, rfl⟩ rfl rfl rfl rfl rfl (by kernel_rfl) Try.func6 (by kernel_rfl)
    (of_decide_eq_true (by kernel_rfl)) (by unfold Func.isWrapper; first | (rw [if_pos (by decide +kernel)]; kernel_rfl) | (rw [if_neg (by decide +kernel)]; exact ⟨rfl, rfl⟩))
    (fun os started H enc _ => diskRefused_lifted os started H enc)
end Go.Proofs.Ytbppkdfmiegipaa

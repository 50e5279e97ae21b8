/- Proves DiskLatest of layer 3 (disks), for every input, with no condition: while the power is on, a sector reads as it was written last, with noughts behind it, flushed or not. -/
import Derived.Test.YtbppkdfmiegipaaDiskX
import Derived.Lib.MinMax
namespace Go.Proofs.Ytbppkdfmiegipaa
open Go.ChangeShapes Go.WideShapes Go.ChangeAt Go.RowKit Go.Maps

/-- A Write that is not ErrArg: it is done, and reads, or the power is off. -/
theorem write_reads {s : DS} {J : Nat} {ys : List UInt8} (hJ : J < s.n) (hy : ys.length ≤ 64) :
    (s.write J ys).1 = 8 ∧ (s.write J ys).2.on = false ∨ (s.write J ys).1 = 0 ∧ (s.write J ys).2.read J = (pad ys, 0) := by
  have hh : s.has (J : Int) := ⟨by omega, by omega⟩
  unfold DS.write
  rw [if_neg (by
    rintro (h | h)
    · exact h hh
    · omega)]
  cases ho : s.step.on with
  | true =>
    right
    rw [if_pos rfl]
    refine ⟨rfl, ?_⟩
    unfold DS.read
    rw [if_neg (fun h => h (by unfold DS.has at hh ⊢; simp only; rw [step_n]; exact hh)), if_pos (by simpa using ho)]
    simp [DS.look, put_same]
  | false =>
    left
    rw [if_neg (by simp)]
    exact ⟨rfl, ho⟩
theorem flush_reads {s : DS} {J : Int} {x : List UInt8} (hr : s.read J = (x, 0)) :
    s.flush.1 = 8 ∧ s.flush.2.on = false ∨ s.flush.1 = 0 ∧ s.flush.2.read J = (x, 0) ∧ s.flush.2.dirty = 0 := by
  unfold DS.read at hr
  split at hr
  · simp at hr
  · rename_i hh
    split at hr
    · rename_i hon
      simp only [Prod.mk.injEq, and_true] at hr
      unfold DS.flush
      cases ho : s.step.on with
      | true =>
        right
        rw [if_pos rfl]
        refine ⟨rfl, ?_, cnt_none _⟩
        unfold DS.read
        rw [if_neg (fun h => hh fun h' => h (by unfold DS.has at h' ⊢; simp only; rw [step_n]; exact h')), if_pos (by simpa using ho)]
        simp only [DS.look, Option.getD_none, Prod.mk.injEq, and_true]
        exact hr
      | false =>
        left
        rw [if_neg (by simp)]
        exact ⟨rfl, ho⟩
    · simp at hr
set_option maxRecDepth 100000 in
set_option maxHeartbeats 4000000 in
theorem diskLatest_walk (z : Int) (S : Option Addr) (sn sc : Nat) (l : List ActV) (kd : Nat) (i : Int) (A B : Option Addr) (n c m d : Nat) (xs : List UInt8) (w : World) (hz : -9223372036854775808 ≤ z ∧ z ≤ 9223372036854775807)
    (hl : (Shp.slice actShp 64).R w [.slice S sn sc] l) (hsn : sn ≤ 9223372036854775807) (hi : -9223372036854775808 ≤ i ∧ i ≤ 9223372036854775807) (hx : Bs w A n xs) (hA : A = none → n = 0 ∧ c = 0) (hnc : n ≤ c) (hc : c ≤ 140737488351232) :
    Calls Try.prog 8 #[.int .i64 z, .slice S sn sc, .agg #[.int .u8 (kd : Int), .int .i64 i, .slice A n c, .slice B m d]] w fun e w' => e = .returned (.bool true) ∧ Below w.heap.size w w' := by
  obtain ⟨r, hr, hr15⟩ := and15 z
  go_enter Try.func8, Try.ntmps8
  go_wp2_with fail
  have ha1 := Blk.new w 36 #[.int .u8 (kd : Int), .int .i64 i, .slice A n c, .slice B m d] rfl
  have hb1 : Below w.heap.size w (w.alloc (.cells #[.int .u8 (kd : Int), .int .i64 i, .slice A n c, .slice B m d] 36)) := (Below.refl _ w).alloc (Nat.le_refl _) _
  generalize (w.alloc (.cells #[.int .u8 (kd : Int), .int .i64 i, .slice A n c, .slice B m d] 36)) = w1 at *
  have c1 := ha1.cell (j := 1) (u := .int .i64 i) rfl
  have c2 := ha1.cell (j := 2) (u := .slice A n c) rfl
  go_quiet (fail)
  clear c1 c2 ha1
  have hb2 : Below w.heap.size w (w1.drewN nq) := below_drewN hb1 nq
  generalize w1.drewN nq = w2 at *
  clear hb1
  go_wp2_with fail
  refine (new_ (r + 1) w2 (by omega) (by omega)).mono ?_
  rintro e w3 ⟨g, rfl, hg, h3, hb3⟩
  go_wp2_with fail
  refine (alive_ _).mono ?_
  rintro e w4 ⟨rfl, hb4⟩
  have h4 := h3.below hb4
  have hB4 : Below w.heap.size w w4 := hb2.trans ((hb3.trans (hb4.mono hb3.size)).mono hb2.size)
  have hg0 : w.heap.size ≤ g := by have := hb2.size; omega
  have hn4 : (DS.fresh (r + 1)).n = r + 1 := rfl
  generalize DS.fresh (r + 1) = s4 at *
  clear h3 hb3 hb4 hb2
  go_wp2_with fail
  go_loopw [41] (fun iv wr => ∃ (k : Nat) (s : DS), k ≤ sn ∧ iv = .int .i64 (k : Int) ∧ Dk wr g s ∧ s.n = r + 1 ∧ Below w.heap.size w wr) (fun iv _ => sn - (intOf iv).toNat)
  case atStart => exact ⟨0, s4, Nat.zero_le _, rfl, h4, hn4, hB4⟩
  case round =>
    obtain ⟨k, s, hk, rfl, hs, hn, hb⟩ := hrel
    clear h4 hn4 hB4
    have hgl := hs.lt
    by_cases hlt : k < sn
    · obtain ⟨b, o, rfl, kd1, i1, A1, B1, n1, c1, m1, d1, xs1, ks1, hkd1, hi1, e0, e1, e2, e3, q1, q2, q3, q4, q5, q6, q7, _⟩ := acts_later hl hb hlt
      have hkl : (k : Int) < (sn : Int) := by omega
      have el := cell_lt e0
      have hb' : Below wr.heap.size wr (wr.alloc (.cells #[.int .u8 (kd1 : Int), .int .i64 i1, .slice A1 n1 c1, .slice B1 m1 d1] 36)) := (Below.refl _ _).alloc (Nat.le_refl _) _
      clear hl
      go_wp2_with fail
      refine (does_ g s kd1 i1 A1 B1 n1 c1 m1 d1 xs1 ks1 _ (hs.below hb') hkd1 hi1 (q1.below hb') q2 q3 (Rd.below q4 hb') q5 (fun a ha h0 => by have := q6 a ha h0; omega) (fun a ha h0 => by have := q7 a ha h0; omega)).mono ?_
      rintro e w5 ⟨rfl, h5, ht5⟩
      have hB5 : Below w.heap.size w w5 := (hb.alloc hb.size _).trans (ht5.below (by omega) (by have := hb.size; simp; omega))
      have hn5 := (does_n s kd1 i1 xs1 ks1).trans hn
      generalize (s.does kd1 i1 xs1 ks1).2 = s5 at *
      clear hb' hs ht5 hb q1 q4
      go_wp2
      go_roundw
      case rel => exact ⟨k + 1, s5, by omega, by go_num, h5, hn5, hB5⟩
      case measure => simp [intOf]; omega
    · have hxl := hx.len
      obtain ⟨p, hp, hpn, hp64⟩ : ∃ p : Nat, min (n : Int) 64 = (p : Int) ∧ p ≤ n ∧ p ≤ 64 := by
        by_cases h : n ≤ 64
        · exact ⟨n, by omega, Nat.le_refl _, h⟩
        · exact ⟨64, by omega, by omega, Nat.le_refl _⟩
      obtain ⟨J, hJ, hJr⟩ := slot_mod i r hr15
      have hpc : (p : Int) ≤ (c : Int) := by omega
      have hxp := (hx.take hpn)
      have hAp : A = none → p = 0 ∧ c = 0 := fun h => ⟨by have := (hA h).1; omega, (hA h).2⟩
      have hXp := rd_block hxp
      have hyl : (xs.take p).length ≤ 64 := by rw [List.length_take]; omega
      generalize xs.take p = ys at *
      have Hp := Lib.hid hxp.len
      clear hl hk hx hxl hA
      go_wp2_with fail
      have hwr := write_reads (s := s) (J := J) (ys := ys) (by omega) hyl
      refine (write_ g s J A p c ys _ hs (hxp.below hb) hAp (by omega) (fun a ha h0 => by have := hXp a ha h0; omega)).mono ?_
      rcases hwr with ⟨e1, e2⟩ | ⟨e1, e2⟩
      · have E2 := Lib.hid e2
        rw [e1]
        rintro e w5 ⟨rfl, h5, ht5⟩
        have hB5 : Below w.heap.size w w5 := hb.trans (ht5.below (by omega) (by omega))
        clear e2 e1
        go_wp2_with fail
        refine (on_ g _ _ h5).mono ?_
        rw [E2.out]
        rintro e w' ⟨rfl, rfl⟩
        go_wp2
        go_ret
        exact ⟨rfl, hB5⟩
      · rw [e1]
        rintro e w5 ⟨rfl, h5, ht5⟩
        have hB5 : Below w.heap.size w w5 := hb.trans (ht5.below (by omega) (by omega))
        generalize (s.write (J : Int) ys).2 = s5 at *
        have hfr := flush_reads e2
        have E2 := Lib.hid e2
        have HF := Lib.hid hfr
        clear e2 e1 hs ht5 hb hfr
        go_wp2_with fail
        refine (read_ g s5 J _ h5).mono ?_
        rw [E2.out]
        rintro e w6 ⟨v6, rfl, hgot6, hpl, hb6⟩
        have hpl := hpl rfl
        obtain ⟨hf6, _⟩ | ⟨q6, rfl, _, hq6, hk6⟩ := hgot6
        · simp only at hf6 hpl; rw [hf6] at hpl; cases hpl
        have h6 := h5.below hb6
        have hl6 := h6.lt
        have hB6 : Below w.heap.size w w6 := hB5.trans (hb6.mono hB5.size)
        simp only at hpl hk6
        have hc6 := one_str (q := q6) hpl
        have hxp6 := hxp.below hB6
        clear hb6 hB5 h5 hq6
        go_wp2_with fail
        go_region_held3 (fun w' => One w' q6 (pad ys))
          (first | exact hk6 | exact Blk.keep (w := w6.drew) hk6 hb7)
          (first | (go_at_call 29; refine (full_ A p c ys _ (show Bs w6.drew A p ys from hxp6) hAp hp64).mono ?_; rintro e w7 ⟨rfl, hb7⟩))
        have hb7' : Below w6.heap.size w6 w7 := ⟨hb7.os, hb7.tape, hb7.output, hb7.size, hb7.block⟩
        have h7 := h6.below hb7'
        have hB7 : Below w.heap.size w w7 := hB6.trans (hb7'.mono hB6.size)
        have hl7 := h7.lt
        clear h6 hB6 hb7 hb7' hk6 hc6 hxp6 hl6
        go_wp2_with fail
        refine (flush_ g s5 _ h7).mono ?_
        rcases HF.out with ⟨e1, e2⟩ | ⟨e1, e2, e3⟩
        · have E3 := Lib.hid e2
          rw [e1]
          rintro e w8 ⟨rfl, h8, ht8⟩
          have hB8 : Below w.heap.size w w8 := hB7.trans (ht8.below (by omega) (by omega))
          clear e2 e1
          go_wp2_with fail
          refine (on_ g _ _ h8).mono ?_
          rw [E3.out]
          rintro e w' ⟨rfl, rfl⟩
          go_wp2
          go_ret
          exact ⟨rfl, hB8⟩
        · rw [e1]
          rintro e w8 ⟨rfl, h8, ht8⟩
          have hB8 : Below w.heap.size w w8 := hB7.trans (ht8.below (by omega) (by omega))
          have E3 := Lib.hid e2
          have E4 := Lib.hid e3
          clear e2 e1 e3 h7 hB7 ht8 hl7
          generalize s5.flush.2 = s8 at *
          go_wp2_with fail
          refine (read_ g s8 J _ h8).mono ?_
          rw [E3.out]
          rintro e w9 ⟨v9, rfl, hgot9, hpl, hb9⟩
          have hpl := hpl rfl
          obtain ⟨hf9, _⟩ | ⟨q9, rfl, _, hq9, hk9⟩ := hgot9
          · simp only at hf9 hpl; rw [hf9] at hpl; cases hpl
          have h9 := h8.below hb9
          have hl9 := h9.lt
          have hB9 : Below w.heap.size w w9 := hB8.trans (hb9.mono hB8.size)
          simp only at hpl hk9
          have hc9 := one_str (q := q9) hpl
          have hxp9 := hxp.below hB9
          clear hb9 hB8 h8 hq9
          go_wp2_with fail
          go_region_held3 (fun w' => One w' q9 (pad ys))
            (first | exact hk9 | exact Blk.keep (w := w9.drew) hk9 hb10)
            (first
              | (go_at_call 29; refine (full_ A p c ys _ (show Bs w9.drew A p ys from hxp9) hAp hp64).mono ?_; rintro e w10 ⟨rfl, hb10⟩)
              | (go_at_call 26; refine (dirty_ g s8 _ (Dk.below (w := w9.drew) (h9.drew) hb10)).mono ?_; rw [E4.out]; rintro e w' ⟨rfl, rfl⟩))
          have hb10' : Below w9.heap.size w9 w10 := ⟨hb10.os, hb10.tape, hb10.output, hb10.size, hb10.block⟩
          go_wp2
          go_ret
          exact ⟨rfl, hB9.trans (hb10'.mono hB9.size)⟩

theorem diskLatest_lifted (os : Os) (started : os.Started) (H : Type) (enc : TypeId × Value → H) :
    ReturnsInHanded {} Try.checked os 8 .any (Rows.diskLatestSpec.pre6 enc Try.prog Try.f8 Rows.diskLatestRow.domain false) (Rows.diskLatestSpec.post enc Try.prog Try.f8 false true false false) := by
  refine law_lifted (C := Try.checked) (tb := 4) own_ started (by kernel_rfl) Try.func8
    (ChangeSpec.witness6 (enc := enc) (C := Try.checked) false ⟨#[], #[.int .i64 0, .slice none 0 0, .agg #[.int .u8 0, .int .i64 0, .slice none 0 0, .slice none 0 0]], []⟩ 8 (by kernel_rfl) (by kernel_rfl) (by kernel_rfl) (by kernel_rfl))
    rfl rfl Try.underlying4 laidOut_ (by kernel_rfl) (fun ds h => by match ds, h with | [_, _, _], _ => rfl) ?_
  intro W base args ds p hval0 hA0 _ hsz0
  have hval : ∀ (j : Nat) t v, Try.f8.params[j]? = some t → args[j]? = some v → Value.okWide Try.prog W .any base t v := hval0
  have hA : DataW.TrodAll enc Try.prog W 0 (fun _ => true) true Try.f8.params.toList args.toList ds p := hA0
  have hsz : (DataW.weightsEach Try.prog Try.f8.params.toList ds).all (· ≤ reachBytes) = true := hsz0
  clear hval0 hA0 hsz0
  rw [Try.params8] at hA hval hsz
  obtain ⟨v0, v1, v2, d0, d1, d2, p0, p1, p2, rfl, rfl, rfl, h0, h1, h2⟩ := trodAll_three hA
  obtain ⟨z0, rfl, hz0⟩ := arg_int _ _ Try.underlying3 (hval 0 _ v0 rfl rfl) h0 wf_i64
  obtain ⟨A1, n1, c1, xs1, rfl, r1, b1⟩ := arg_slice ops_acts Try.underlying22 (hval 1 _ v1 rfl rfl) h1 (weight_at hsz (j := 1) rfl rfl)
  obtain ⟨cs2, a2, rfl, r2, b2⟩ := arg_struct ops_act Try.underlying36 (hval 2 _ v2 rfl rfl) h2 (weight_at hsz (j := 2) rfl rfl)
  obtain ⟨A, n, c, B, m, d, rfl, q1, q2, q3, q4, q5, q6, q7, q8, q9, q10⟩ := act_arr r2
  exact diskLatest_walk z0 A1 n1 c1 xs1 _ _ A B n c m d _ W hz0 r1 (acts_len r1) ⟨q9, q10⟩ q1 q2 q3 q4

/-- DiskLatest, for every input: the statement as it was given. -/
theorem diskLatest_holds : Rows.DiskLatestSaid :=
  OpenClaim.holds_of_wide 8 Try.f8 rfl rfl rfl rfl rfl rfl rfl ⟨rfl, rfl, rfl, rfl, rfl⟩ rfl rfl rfl rfl rfl (by kernel_rfl) Try.func8 (by kernel_rfl)
    (of_decide_eq_true (by kernel_rfl)) (by unfold Func.isWrapper; first | (rw [if_pos (by decide +kernel)]; kernel_rfl) | (rw [if_neg (by decide +kernel)]; exact ⟨rfl, rfl⟩))
    (fun os started H enc _ => diskLatest_lifted os started H enc)
end Go.Proofs.Ytbppkdfmiegipaa

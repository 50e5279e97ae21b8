/- StreamTurned: of records' bytes of which one was turned those ahead of the record that has it are read, and it and none behind it as it was: whatever the input, the law returns true. No condition. -/
import Derived.Test.YtofoecpnphoohaaStrX
import Derived.Test.YtofoecpnphoohaaSumN
set_option linter.all false
namespace Go.Proofs.Ytofoecpnphoohaa
open Go.ChangeShapes Go.WideShapes Go.ChangeAt Go.RowKit
namespace Str
open Blo (I64)
theorem Rcl.take {w : World} {A : Option Addr} {n : Nat} {l : List Rec} (h : Rcl w A n l) {i : Nat} (hi : i ≤ n) : Rcl w A i (l.take i) := by
  have hl := h.len
  refine ⟨by rw [List.length_take]; omega, fun k hk => ?_⟩
  rw [List.length_take] at hk
  obtain ⟨b, o, X, m, c, e, hc, hd⟩ := h.each k (by omega)
  have ex : (l.take i)[k]'(by rw [List.length_take]; omega) = l[k]'(by omega) := by simp
  rw [ex]
  exact ⟨b, o, X, m, c, e, hc, hd⟩
theorem rcl_one {w : World} {x : Rec} {X : Option Addr} {m c : Nat} (h : Rdt w x X m c) {t : TypeId} {g : Nat} (hg : g = w.heap.size) : Rcl (w.alloc (.cells (ra x (.slice X m c)) t)) (some ⟨g, 0, none⟩) 1 [x] := by
  subst hg
  have hb : Below w.heap.size w (w.alloc (.cells (ra x (.slice X m c)) t)) := (Below.refl _ _).alloc (Nat.le_refl _) _
  have hn := Blk.new w t (ra x (.slice X m c)) rfl
  refine ⟨rfl, fun k hk => ?_⟩
  match k, hk with
  | 0, _ => exact ⟨_, 0, X, m, c, rfl, fun j u hu => hn.cell (by simpa using hu), h.below hb⟩
theorem enc_one {x : Rec} (h : MayR x) : encE [x] = 0 := by
  have hm : mayB x = true := decide_eq_true h
  have hd := h.1.data
  unfold encE
  rw [encL_one, recB_length, List.all_cons, List.all_nil, hm]
  rw [Bool.true_and, if_pos rfl, if_pos (by omega)]
/-- A byte of the bytes of all is a byte of its record's. -/
theorem encL_at {l : List Rec} {i j : Nat} (hi : i < l.length) (hj : j < (recB l[i]).length) : ∃ h : (encL (l.take i)).length + j < (encL l).length, (encL l)[(encL (l.take i)).length + j]'h = (recB l[i])[j] := by
  have e : encL l = encL (l.take i) ++ (recB l[i] ++ encL (l.drop (i + 1))) := by
    conv => lhs; rw [← List.take_append_drop i l, encL_append, List.drop_eq_getElem_cons hi, encL_cons]
  have hlen : (encL (l.take i)).length + j < (encL l).length := by
    rw [e, List.length_append, List.length_append]; omega
  refine ⟨hlen, ?_⟩
  have h1 : (encL l)[(encL (l.take i)).length + j]? = some (recB l[i])[j] := by
    rw [e, List.getElem?_append_right (by omega), Nat.add_sub_cancel_left, List.getElem?_append_left hj, List.getElem?_eq_getElem hj]
  rw [List.getElem?_eq_getElem hlen] at h1
  exact Option.some.inj h1
/-- What is read of records' bytes of which one was turned. -/
theorem turned_at {l : List Rec} (h : AllMay l) {i e k : Nat} {y : UInt8} (hy : y ≠ 0) (hi : i < l.length) (he : e = (encL (l.take i)).length) (hek : e ≤ k) (hk : k < e + (recB l[i]).length) (hkl : k < (encL l).length) :
    ∃ t : List Rec, (runR (rn.b ++ (encL l).set k ((encL l)[k] ^^^ y))).1 = l.take i ++ t ∧ t.head? ≠ some l[i] := by
  subst he
  obtain ⟨j, rfl⟩ : ∃ j, k = (encL (l.take i)).length + j := ⟨k - (encL (l.take i)).length, by omega⟩
  have hj : j < (recB l[i]).length := by omega
  obtain ⟨h1, h2⟩ := encL_at hi hj
  rw [List.nil_append]
  refine turned l h i j hi _ hj ?_
  rw [h2]
  intro e
  exact hy ((xor_self_iff _ _).1 e.symm)
theorem enters_R10 (vs : Array Value) (w : World) : (callFunc 11 vs).run Try.prog w = .ok (.enter 11 vs) w := by go_simp
theorem enters_alive2 (vs : Array Value) (w : World) : (callFunc 9 vs).run Try.prog w = .ok (.enter 9 vs) w := by go_simp
theorem rsame_t (w : World) (A B : Option Addr) (n c d : Nat) (l : List Rec) (ha : Rcl w A n l) (hb : Rcl w B n l) (hn : n ≤ 9223372036854775807) (hm : n ≤ 9223372036854775807) :
    Calls Try.prog 11 #[.slice A n c, .slice B n d] w fun e w' => e = .returned (.bool true) ∧ Below w.heap.size w w' := by
  have := rsame_ w A B n n c d l l ha hb hn hm
  rwa [decide_eq_true (rfl : l = l)] at this
theorem take_lt_enc (l : List Rec) (i : Nat) (hi : l.length ≤ i) : (encL (l.take i)).length = (encL l).length := by rw [List.take_of_length_le hi]
section
variable (w : World)
set_option maxRecDepth 100000 in
set_option maxHeartbeats 8000000 in
theorem streamTurned_walk (A : Option Addr) (n c : Nat) (l : List Rec) (h : Rcl w A n l) (hnc : n ≤ c) (hc : c ≤ 9223372036854775807) (z : Int) (hz : -9223372036854775808 ≤ z ∧ z ≤ 9223372036854775807) (y : UInt8) :
    Calls Try.prog 4 #[.slice A n c, .int .i64 z, .int .u8 (y.toNat : Int)] w fun e w' => e = .returned (.bool true) ∧ Below w.heap.size w w' := by
  have hyb := y.toNat_lt
  obtain ⟨E, hEE⟩ : ∃ E, encE l = E := ⟨_, rfl⟩
  obtain ⟨V, hVV⟩ : ∃ V, encV l = V := ⟨_, rfl⟩
  have HEE := Lib.hid hEE
  have HVV := Lib.hid hVV
  by_cases hmain : E = 0 ∧ V ≠ [] ∧ y ≠ 0
  · obtain ⟨hE, hV, hy⟩ := hmain
    rw [hE] at hEE
    have hAM := all_may h hEE
    have hlen := (encE_zero hEE).2
    have hVe : V = encL l := by rw [← hVV, encV_ok hEE]
    obtain ⟨q, hq⟩ : ∃ q, (encL l).length = q := ⟨_, rfl⟩
    have hqp : 0 < q := by rw [← hq, ← hVe]; exact List.length_pos_iff.2 hV
    have hy0 : ¬ (y.toNat : Int) = 0 := by
      intro e
      apply hy
      exact UInt8.toNat.inj (by simpa using e)
    have tb := tmod_bounds z q hqp
    obtain ⟨k, hk⟩ : ∃ k : Nat, (z.tmod (q : Int) + (q : Int)) % (q : Int) = (k : Int) := ⟨((z.tmod (q : Int) + (q : Int)) % (q : Int)).toNat, by have := Int.emod_nonneg (z.tmod (q : Int) + (q : Int)) (b := (q : Int)) (by omega); omega⟩
    have hkq : k < q := by have := Int.emod_lt_of_pos (z.tmod (q : Int) + (q : Int)) (b := (q : Int)) (by omega); omega
    have hq0 : ¬ (q : Int) = 0 := by omega
    have hq1 : ((q : Int) == 0) = false := by simp; omega
    have hy1 : ((y.toNat : Int) == 0) = false := by simpa using hy0
    clear hVV hV hE
    subst hVe
    go_enter Try.func4, Try.ntmps4
    go_wp2_with fail
    refine (enc_ _ A n c l h (by omega)).mono ?_
    rw [hEE, HVV.out]
    rintro e w4 ⟨v4, rfl, hown4, hb4⟩
    obtain ⟨A4, c4, rfl, hc4, hm4, ha4⟩ := own_form hown4
    unfold maxLen at hm4
    rw [hq] at hown4 hlen hc4 ha4 ⊢
    have Hq := Lib.hid hq
    clear hq hEE
    go_wp2_with fail
    refine (rnew_ _).mono ?_
    rintro e w5 ⟨rfl, hr5, hb5⟩
    have hown5 := own_keep hown4 hb5
    have hB5 := hb4.trans (hb5.mono hb4.size)
    have hkx : k < (encL l).length := by rw [Hq.out]; exact hkq
    obtain ⟨g, cap, cur, eA, hnc4, hcm4, hbg, hblk, hcs, hcx⟩ := own_cells hown5 hqp
    injection eA with eA _ ec
    subst eA ec
    have hgb : g < w4.heap.size := by have := (hown4.lt g rfl).2; exact this
    obtain ⟨old, hold⟩ : ∃ old, (encL l)[k] = old := ⟨_, rfl⟩
    have hcell : w5.cell? ⟨g, k, none⟩ = some (.int .u8 (old.toNat : Int)) := by
      refine hblk.cell ?_
      have h1 : (bvs (encL l))[k]? = some (.int .u8 (old.toNat : Int)) := by simp [bvs, bv, List.getElem?_eq_getElem hkx, hold]
      rw [← hcx, List.getElem?_take, if_pos hkq] at h1
      simpa using h1
    have hfz := hblk.free k
    have hob := old.toNat_lt
    have hxor := u8_xor_nat _ _ hob hyb
    obtain ⟨w6, hw6⟩ : ∃ w6, w5.setCell ⟨g, k, none⟩ (.int .u8 ((old.toNat ^^^ y.toNat : Nat) : Int)) = w6 := ⟨_, rfl⟩
    obtain ⟨ys, hys⟩ : ∃ ys, (encL l).set k ((encL l)[k] ^^^ y) = ys := ⟨_, rfl⟩
    have hown6 : w6.ownsRow w.heap.size 5 1 (.slice (some ⟨g, 0, none⟩) q c4) q (bvs ys) := by
      have h1 := own_set1 hown5 k (.int .u8 ((old.toNat ^^^ y.toNat : Nat) : Int)) hkq
      rw [hw6] at h1
      rw [← hys, hold]
      have e : (bvs (encL l)).set k (.int .u8 ((old.toNat ^^^ y.toNat : Nat) : Int)) = bvs ((encL l).set k (old ^^^ y)) := by
        simp only [bvs, List.map_set, bv, UInt8.toNat_xor]
      rw [e] at h1
      exact h1
    have hr6 : Rdo w6 w4.heap.size w4.heap.size rn := by rw [← hw6]; exact hr5.grown (grown_setCell w5 ⟨g, k, none⟩ _) (fun j hj => by injection hj with hj; simp only at hj; omega)
    have hB6 : Below w.heap.size w w6 := by rw [← hw6]; exact hB5.setCell (p := ⟨g, k, none⟩) hbg _
    have hyl : ys.length = q := by rw [← hys, List.length_set, Hq.out]
    have Hyl := Lib.hid hyl
    have hturn : ∀ i e, i < l.length → (hi : i < l.length) → e = (encL (l.take i)).length → e ≤ k → k < e + (recB l[i]).length → ∃ t : List Rec, (runR (rn.b ++ ys)).1 = l.take i ++ t ∧ t.head? ≠ some l[i] := fun i e _ hi he hek hk => by
      rw [← hys]
      exact turned_at hAM hy hi he hek hk hkx
    obtain ⟨br, hbr⟩ : ∃ br, w4.heap.size = br := ⟨_, rfl⟩
    rw [hbr] at hr6 ⊢
    clear hown5 hr5 hb4 hb5 hown4 hblk hys hyl
    go_wp2_with fail
    rw [hk]
    rw [hbr] at hgb
    clear hw6 hcell hfz hxor hB5 hcx hcs hcm4 hnc4 tb hbr hold
    go_loopw [10, 11] (fun wv ev wr => ∃ (i e : Nat), i ≤ n ∧ wv = .int .i64 (i : Int) ∧ ev = .int .i64 (e : Int) ∧ Hid (e = (encL (l.take i)).length) ∧ e ≤ k ∧ wr.ownsRow w.heap.size 5 1 (.slice (some ⟨g, 0, none⟩) q c4) q (bvs ys) ∧ Rdo wr br br rn ∧ Below w.heap.size w wr) (fun wv _ _ => n - (intOf wv).toNat)
    case atStart => exact ⟨0, 0, Nat.zero_le _, rfl, rfl, Lib.hid rfl, Nat.zero_le _, hown6, hr6, hB6⟩
    case round =>
      obtain ⟨i, e, hi, rfl, rfl, He, hek, hown, hr, hb⟩ := hrel
      by_cases hlt : i < n
      · have hil : (i : Int) < (n : Int) := by omega
        have hi0' : (0 : Int) ≤ (i : Int) := by omega
        obtain ⟨b, o, X, m, cc, x, rfl, hx, hrc, hd⟩ := (h.below hb).at_ hlt
        obtain ⟨c0, c1, c2, c3, c4', c5, c6, c7⟩ := hrc.all
        have hxl := (List.getElem?_eq_some_iff.1 hx)
        have hmx := (hAM x (List.mem_of_getElem? hx)).1
        have hR1 : Rcl (wr.alloc (.cells (ra x (.slice X m cc)) 39)) (some ⟨wr.heap.size, 0, none⟩) 1 [x] := rcl_one hd rfl
        have hba : Below wr.heap.size wr (wr.alloc (.cells (ra x (.slice X m cc)) 39)) := (Below.refl _ _).alloc (Nat.le_refl _) _
        have hE1 := enc_one hmx
        have HX := Lib.hid (encL_snoc hx)
        have hRx : (recB x).length ≤ 600 := by rw [recB_length]; have := hmx.1.data; omega
        obtain ⟨hil2, hxi⟩ := hxl
        clear hrc hd hx
        go_wp2_with fail
        refine (enc_ _ (some ⟨wr.heap.size, 0, none⟩) 1 1 [x] hR1 (by omega)).mono ?_
        rw [hE1, encV_ok hE1, encL_one]
        rintro e7 w7 ⟨v7, rfl, hown7, hb7⟩
        have hb17 := below_step hba hb7 (Nat.le_refl _)
        have hownw := own_keep hown hb17
        have hrw := hr.keep hb17
        have hbw := hb.trans (hb17.mono hb.size)
        obtain ⟨z7, hz7⟩ : ∃ z7, (recB x).length = z7 := ⟨_, rfl⟩
        rw [hz7] at hown7 hRx
        have Hz7 := Lib.hid hz7
        obtain ⟨A7, c7', rfl, hc7, hm7, ha7⟩ := own_form hown7
        clear hz7 hown7 hb7 hba hR1 hE1 hown hr hb hb17 c0 c1 c2 c3 c4' c5 c6 c7
        by_cases hbr2 : e + z7 ≤ k
        · have hle : (e : Int) + (z7 : Int) ≤ (k : Int) := by omega
          have HX2 := Lib.hid (show e + z7 = (encL (l.take (i + 1))).length by rw [HX.out, List.length_append, He.out, Hz7.out])
          go_wp2
          go_roundw
          case rel => exact ⟨i + 1, e + z7, by omega, by go_num, by go_num, HX2, hbr2, hownw, hrw, hbw⟩
          case measure => simp [intOf]; omega
        · have hlt7 : (k : Int) < (e : Int) + (z7 : Int) := by omega
          obtain ⟨t, ht1, ht2⟩ := hturn i e hil2 hil2 He.out hek (by rw [hxi, Hz7.out]; omega)
          rw [hxi] at ht2
          have hbs := bs_own hownw
          have hB0 : w.heap.size ≤ br := by omega
          clear hturn hown6 hr6 hB6 He Hz7 HX
          go_wp2_with fail
          refine (feed_ _ br br rn (some ⟨g, 0, none⟩) q c4 ys hrw ⟨rfl, rfl⟩ hbs hc4 hm4 (by simp; omega) (by simp)).mono ?_
          rintro e8 w8 ⟨A8, m8, c8, L8, rfl, hO8, hL8, hr8, hg8⟩
          rw [ht1] at hL8
          have hB8 : Below w.heap.size w w8 := hbw.grown hg8 hbw.size (fun j hj => by injection hj with hj; omega)
          have hG8 := hO8.rcl
          rw [hL8] at hG8
          obtain ⟨_, hc8, hm8, ha8⟩ := hO8.bounds
          have hR8 := h.below hB8
          have hml : m8 = i + t.length := by have := hG8.len; rw [List.length_append, List.length_take] at this; have := h.len; omega
          have hG8i := hG8.take (i := i) (by omega)
          have hti : (l.take i ++ t).take i = l.take i := List.take_left' (by rw [List.length_take]; omega)
          rw [hti] at hG8i
          have hR8i := hR8.take (i := i) (by omega)
          have hGd := hG8i.drewN 1
          have hRd := hR8i.drewN 1
          have s1 : (i : Int) ≤ (m8 : Int) := by omega
          have s2 : (i : Int) ≤ (c8 : Int) := by omega
          have s3 : i ≤ c8 := by omega
          have s4 : (i : Int) ≤ (c : Int) := by omega
          have s5 : i ≤ c := by omega
          have Hml := Lib.hid hml
          clear hO8 hr8 hg8 hL8 hbw hrw hownw hbs ht1 hml hti hG8i hR8i
          cases t with
          | nil =>
            have hmi : m8 = i := by have := Hml.out; simpa using this
            have q1 : ((m8 : Int) == (i : Int)) = true := by simp [hmi]
            clear hmi
            go_wp2_with fail
            refine wp_region_noPanic ?_
            refine wp_region_held_drew (S := (fun _ => True)) (by kernel_rfl) trivial (fun _ => ?_)
            refine wpAnyH_take (i := 0) (oi := _) (v := ?_) rfl (by kernel_rfl) (by kernel_rfl) (by kernel_rfl) (fun _ _ _ h => h) (Or.inl ⟨by kernel_rfl, ?_⟩) trivial ?_
            rotate_left
            · (rintro w _; go_simp; (first | done | rfl))
            try simp only [Act.put, List.getElem_toArray, List.getElem_cons_zero, List.getElem_cons_succ, List.setIfInBounds_toArray, List.set_cons_zero, List.set_cons_succ]
            refine wpAnyH_take (i := 1) (oi := _) (v := ?_) rfl (by kernel_rfl) (by kernel_rfl) (by kernel_rfl) (fun _ _ _ h => h) (Or.inl ⟨by kernel_rfl, ?_⟩) trivial ?_
            rotate_left
            · (rintro w _; go_simp; (first | done | rfl))
            try simp only [Act.put, List.getElem_toArray, List.getElem_cons_zero, List.getElem_cons_succ, List.setIfInBounds_toArray, List.set_cons_zero, List.set_cons_succ]
            refine wpAnyH_take (i := 2) (oi := _) (v := ?_) rfl (by kernel_rfl) (by kernel_rfl) (by kernel_rfl) (fun _ _ _ h => h) (Or.inl ⟨by kernel_rfl, ?_⟩) trivial ?_
            rotate_left
            · (rintro w _; go_simp; (first | done | rfl))
            try simp only [Act.put, List.getElem_toArray, List.getElem_cons_zero, List.getElem_cons_succ, List.setIfInBounds_toArray, List.set_cons_zero, List.set_cons_succ]
            refine wpAnyH_take (i := 3) (oi := _) (v := ?_) rfl (by kernel_rfl) (by kernel_rfl) (by kernel_rfl) (fun _ _ _ h => h) (Or.inl ⟨by kernel_rfl, ?_⟩) trivial ?_
            rotate_left
            · (rintro w _; go_simp; (first | done | rfl))
            try simp only [Act.put, List.getElem_toArray, List.getElem_cons_zero, List.getElem_cons_succ, List.setIfInBounds_toArray, List.set_cons_zero, List.set_cons_succ]
            refine wpAnyH_take (i := 4) (oi := _) (v := ?_) rfl (by kernel_rfl) (by kernel_rfl) (by kernel_rfl) (fun _ _ _ h => h) (Or.inl ⟨by kernel_rfl, ?_⟩) trivial ?_
            rotate_left
            · (rintro w _; go_simp; (first | done | rfl))
            try simp only [Act.put, List.getElem_toArray, List.getElem_cons_zero, List.getElem_cons_succ, List.setIfInBounds_toArray, List.set_cons_zero, List.set_cons_succ]
            refine wpAnyH_take (i := 5) (oi := _) (v := ?_) rfl (by kernel_rfl) (by kernel_rfl) (by kernel_rfl) (fun _ _ _ h => h) (Or.inl ⟨by kernel_rfl, ?_⟩) trivial ?_
            rotate_left
            · (rintro w _; go_simp; (first | done | rfl))
            try simp only [Act.put, List.getElem_toArray, List.getElem_cons_zero, List.getElem_cons_succ, List.setIfInBounds_toArray, List.set_cons_zero, List.set_cons_succ]
            refine wpAnyH_take (i := 6) (oi := _) (v := ?_) rfl (by kernel_rfl) (by kernel_rfl) (by kernel_rfl) (fun _ _ _ h => h) (Or.inl ⟨by kernel_rfl, ?_⟩) trivial ?_
            rotate_left
            · (rintro w _; go_simp; (first | done | rfl))
            try simp only [Act.put, List.getElem_toArray, List.getElem_cons_zero, List.getElem_cons_succ, List.setIfInBounds_toArray, List.set_cons_zero, List.set_cons_succ]
            refine wpAnyH_take (i := 7) (oi := _) (v := ?_) rfl (by kernel_rfl) (by kernel_rfl) (by kernel_rfl) (fun _ _ _ h => h) (Or.inl ⟨by kernel_rfl, ?_⟩) trivial ?_
            rotate_left
            · (rintro w _; go_simp; (first | done | rfl))
            try simp only [Act.put, List.getElem_toArray, List.getElem_cons_zero, List.getElem_cons_succ, List.setIfInBounds_toArray, List.set_cons_zero, List.set_cons_succ]
            refine wpAnyH_take (i := 8) (oi := _) (v := ?_) rfl (by kernel_rfl) (by kernel_rfl) (by kernel_rfl) (fun _ _ _ h => h) (Or.inl ⟨by kernel_rfl, ?_⟩) trivial ?_
            rotate_left
            · (rintro w _; go_simp; (first | done | rfl))
            try simp only [Act.put, List.getElem_toArray, List.getElem_cons_zero, List.getElem_cons_succ, List.setIfInBounds_toArray, List.set_cons_zero, List.set_cons_succ]
            refine wpAnyH_take (i := 9) (oi := _) (v := ?_) rfl (by kernel_rfl) (by kernel_rfl) (by kernel_rfl) (fun _ _ _ h => h) (Or.inl ⟨by kernel_rfl, ?_⟩) trivial ?_
            rotate_left
            · (rintro w _; go_simp; (first | done | rfl))
            try simp only [Act.put, List.getElem_toArray, List.getElem_cons_zero, List.getElem_cons_succ, List.setIfInBounds_toArray, List.set_cons_zero, List.set_cons_succ]
            refine wpAnyH_take (i := 10) (oi := _) (v := ?_) rfl (by kernel_rfl) (by kernel_rfl) (by kernel_rfl) (fun _ _ _ h => h) (Or.inl ⟨by kernel_rfl, ?_⟩) trivial ?_
            rotate_left
            · (rintro w _; go_simp; (first | done | rfl))
            try simp only [Act.put, List.getElem_toArray, List.getElem_cons_zero, List.getElem_cons_succ, List.setIfInBounds_toArray, List.set_cons_zero, List.set_cons_succ]
            refine wpAnyH_ready (rs := [11]) (by kernel_rfl) (by simp) (AllReadyH.cons (o := _) rfl (fun K hK => ?_) AllReadyH.nil)
            rw [if_pos (by kernel_rfl)]
            refine wp_fn 11 _ _ rfl _ rfl enters_R10 (rsame_t _ A8 (some ⟨b, o, none⟩) i c8 c (l.take i) hGd hRd (by omega) (by omega)) ?_
            rintro e9 w9 ⟨rfl, hb9⟩
            have hb9' : Below w8.heap.size w8 w9 := Blo.below_undrew hb9
            refine ⟨_, rfl, ?_⟩
            refine hK.out _ _ trivial (fun _ => ?_)
            clear hK K
            try simp only [Act.put, List.getElem_toArray, List.getElem_cons_zero, List.getElem_cons_succ, List.setIfInBounds_toArray, List.set_cons_zero, List.set_cons_succ]
            refine wpAnyH_take (i := 12) (oi := _) (v := ?_) rfl (by kernel_rfl) (by kernel_rfl) (by kernel_rfl) (fun _ _ _ h => h) (Or.inl ⟨by kernel_rfl, ?_⟩) trivial ?_
            rotate_left
            · (rintro w _; go_simp; (first | done | rfl))
            try simp only [Act.put, List.getElem_toArray, List.getElem_cons_zero, List.getElem_cons_succ, List.setIfInBounds_toArray, List.set_cons_zero, List.set_cons_succ]
            refine wpAnyH_take (i := 13) (oi := _) (v := ?_) rfl (by kernel_rfl) (by kernel_rfl) (by kernel_rfl) (fun _ _ _ h => h) (Or.inl ⟨by kernel_rfl, ?_⟩) trivial ?_
            rotate_left
            · (rintro w _; go_simp; (first | done | rfl))
            try simp only [Act.put, List.getElem_toArray, List.getElem_cons_zero, List.getElem_cons_succ, List.setIfInBounds_toArray, List.set_cons_zero, List.set_cons_succ]
            refine wpAnyH_take (i := 14) (oi := _) (v := ?_) rfl (by kernel_rfl) (by kernel_rfl) (by kernel_rfl) (fun _ _ _ h => h) (Or.inl ⟨by kernel_rfl, ?_⟩) trivial ?_
            rotate_left
            · (rintro w _; go_simp; (first | done | rfl))
            try simp only [Act.put, List.getElem_toArray, List.getElem_cons_zero, List.getElem_cons_succ, List.setIfInBounds_toArray, List.set_cons_zero, List.set_cons_succ]
            refine wpAnyH_take (i := 15) (oi := _) (v := ?_) rfl (by kernel_rfl) (by kernel_rfl) (by kernel_rfl) (fun _ _ _ h => h) (Or.inl ⟨by kernel_rfl, ?_⟩) trivial ?_
            rotate_left
            · (rintro w _; go_simp; (first | done | rfl))
            try simp only [Act.put, List.getElem_toArray, List.getElem_cons_zero, List.getElem_cons_succ, List.setIfInBounds_toArray, List.set_cons_zero, List.set_cons_succ]
            refine wpAnyH_take (i := 16) (oi := _) (v := ?_) rfl (by kernel_rfl) (by kernel_rfl) (by kernel_rfl) (fun _ _ _ h => h) (Or.inl ⟨by kernel_rfl, ?_⟩) trivial ?_
            rotate_left
            · (rintro w _; go_simp; (first | done | rfl))
            try simp only [Act.put, List.getElem_toArray, List.getElem_cons_zero, List.getElem_cons_succ, List.setIfInBounds_toArray, List.set_cons_zero, List.set_cons_succ]
            refine wpAnyH_take (i := 17) (oi := _) (v := ?_) rfl (by kernel_rfl) (by kernel_rfl) (by kernel_rfl) (fun _ _ _ h => h) (Or.inl ⟨by kernel_rfl, ?_⟩) trivial ?_
            rotate_left
            · (rintro w _; go_simp; (first | done | rfl))
            try simp only [Act.put, List.getElem_toArray, List.getElem_cons_zero, List.getElem_cons_succ, List.setIfInBounds_toArray, List.set_cons_zero, List.set_cons_succ]
            refine wpAnyH_take (i := 18) (oi := _) (v := ?_) rfl (by kernel_rfl) (by kernel_rfl) (by kernel_rfl) (fun _ _ _ h => h) (Or.inl ⟨by kernel_rfl, ?_⟩) trivial ?_
            rotate_left
            · (rintro w _; go_simp; (first | done | rfl))
            try simp only [Act.put, List.getElem_toArray, List.getElem_cons_zero, List.getElem_cons_succ, List.setIfInBounds_toArray, List.set_cons_zero, List.set_cons_succ]
            refine wpAnyH_take (i := 19) (oi := _) (v := undef) rfl (by kernel_rfl) (by kernel_rfl) (by kernel_rfl) (fun _ _ _ h => h) (Or.inr ⟨by kernel_rfl, rfl⟩) trivial ?_
            try simp only [Act.put, List.getElem_toArray, List.getElem_cons_zero, List.getElem_cons_succ, List.setIfInBounds_toArray, List.set_cons_zero, List.set_cons_succ]
            refine wpAnyH_take (i := 20) (oi := _) (v := undef) rfl (by kernel_rfl) (by kernel_rfl) (by kernel_rfl) (fun _ _ _ h => h) (Or.inr ⟨by kernel_rfl, rfl⟩) trivial ?_
            try simp only [Act.put, List.getElem_toArray, List.getElem_cons_zero, List.getElem_cons_succ, List.setIfInBounds_toArray, List.set_cons_zero, List.set_cons_succ]
            refine wpAnyH_take (i := 21) (oi := _) (v := undef) rfl (by kernel_rfl) (by kernel_rfl) (by kernel_rfl) (fun _ _ _ h => h) (Or.inr ⟨by kernel_rfl, rfl⟩) trivial ?_
            try simp only [Act.put, List.getElem_toArray, List.getElem_cons_zero, List.getElem_cons_succ, List.setIfInBounds_toArray, List.set_cons_zero, List.set_cons_succ]
            refine wpAnyH_take (i := 22) (oi := _) (v := undef) rfl (by kernel_rfl) (by kernel_rfl) (by kernel_rfl) (fun _ _ _ h => h) (Or.inr ⟨by kernel_rfl, rfl⟩) trivial ?_
            try simp only [Act.put, List.getElem_toArray, List.getElem_cons_zero, List.getElem_cons_succ, List.setIfInBounds_toArray, List.set_cons_zero, List.set_cons_succ]
            refine wpAnyH_take (i := 23) (oi := _) (v := undef) rfl (by kernel_rfl) (by kernel_rfl) (by kernel_rfl) (fun _ _ _ h => h) (Or.inr ⟨by kernel_rfl, rfl⟩) trivial ?_
            try simp only [Act.put, List.getElem_toArray, List.getElem_cons_zero, List.getElem_cons_succ, List.setIfInBounds_toArray, List.set_cons_zero, List.set_cons_succ]
            refine wpAnyH_take (i := 24) (oi := _) (v := undef) rfl (by kernel_rfl) (by kernel_rfl) (by kernel_rfl) (fun _ _ _ h => h) (Or.inr ⟨by kernel_rfl, rfl⟩) trivial ?_
            try simp only [Act.put, List.getElem_toArray, List.getElem_cons_zero, List.getElem_cons_succ, List.setIfInBounds_toArray, List.set_cons_zero, List.set_cons_succ]
            refine wpAnyH_take (i := 25) (oi := _) (v := undef) rfl (by kernel_rfl) (by kernel_rfl) (by kernel_rfl) (fun _ _ _ h => h) (Or.inr ⟨by kernel_rfl, rfl⟩) trivial ?_
            try simp only [Act.put, List.getElem_toArray, List.getElem_cons_zero, List.getElem_cons_succ, List.setIfInBounds_toArray, List.set_cons_zero, List.set_cons_succ]
            refine wpAnyH_take (i := 26) (oi := _) (v := undef) rfl (by kernel_rfl) (by kernel_rfl) (by kernel_rfl) (fun _ _ _ h => h) (Or.inr ⟨by kernel_rfl, rfl⟩) trivial ?_
            try simp only [Act.put, List.getElem_toArray, List.getElem_cons_zero, List.getElem_cons_succ, List.setIfInBounds_toArray, List.set_cons_zero, List.set_cons_succ]
            refine wpAnyH_take (i := 27) (oi := _) (v := undef) rfl (by kernel_rfl) (by kernel_rfl) (by kernel_rfl) (fun _ _ _ h => h) (Or.inr ⟨by kernel_rfl, rfl⟩) trivial ?_
            try simp only [Act.put, List.getElem_toArray, List.getElem_cons_zero, List.getElem_cons_succ, List.setIfInBounds_toArray, List.set_cons_zero, List.set_cons_succ]
            refine wpAnyH_take (i := 28) (oi := _) (v := undef) rfl (by kernel_rfl) (by kernel_rfl) (by kernel_rfl) (fun _ _ _ h => h) (Or.inr ⟨by kernel_rfl, rfl⟩) trivial ?_
            try simp only [Act.put, List.getElem_toArray, List.getElem_cons_zero, List.getElem_cons_succ, List.setIfInBounds_toArray, List.set_cons_zero, List.set_cons_succ]
            refine wpAnyH_take (i := 29) (oi := _) (v := ?_) rfl (by kernel_rfl) (by kernel_rfl) (by kernel_rfl) (fun _ _ _ h => h) (Or.inl ⟨by kernel_rfl, ?_⟩) trivial ?_
            rotate_left
            · (rintro w _; go_simp; (first | done | rfl))
            try simp only [Act.put, List.getElem_toArray, List.getElem_cons_zero, List.getElem_cons_succ, List.setIfInBounds_toArray, List.set_cons_zero, List.set_cons_succ]
            refine wpAnyH_take (i := 30) (oi := _) (v := ?_) rfl (by kernel_rfl) (by kernel_rfl) (by kernel_rfl) (fun _ _ _ h => h) (Or.inl ⟨by kernel_rfl, ?_⟩) trivial ?_
            rotate_left
            · (rintro w _; go_simp; (first | done | rfl))
            try simp only [Act.put, List.getElem_toArray, List.getElem_cons_zero, List.getElem_cons_succ, List.setIfInBounds_toArray, List.set_cons_zero, List.set_cons_succ]
            refine wpAnyH_take (i := 31) (oi := _) (v := ?_) rfl (by kernel_rfl) (by kernel_rfl) (by kernel_rfl) (fun _ _ _ h => h) (Or.inl ⟨by kernel_rfl, ?_⟩) trivial ?_
            rotate_left
            · (rintro w _; go_simp; (first | done | rfl))
            try simp only [Act.put, List.getElem_toArray, List.getElem_cons_zero, List.getElem_cons_succ, List.setIfInBounds_toArray, List.set_cons_zero, List.set_cons_succ]
            refine wpAnyH_ready (rs := [32]) (by kernel_rfl) (by simp) (AllReadyH.cons (o := _) rfl (fun K hK => ?_) AllReadyH.nil)
            rw [if_pos (by kernel_rfl)]
            refine wp_fn 9 _ _ rfl _ rfl enters_alive2 (alive_ _) ?_
            rintro e11 w11 ⟨rfl, hb11⟩
            have hb11' : Below w8.heap.size w8 w11 := below_step hb9' hb11 (Nat.le_refl _)
            refine ⟨_, rfl, ?_⟩
            refine hK.out _ _ trivial (fun _ => ?_)
            clear hK K
            try simp only [Act.put, List.getElem_toArray, List.getElem_cons_zero, List.getElem_cons_succ, List.setIfInBounds_toArray, List.set_cons_zero, List.set_cons_succ]
            refine wpAnyH_take (i := 33) (oi := _) (v := ?_) rfl (by kernel_rfl) (by kernel_rfl) (by kernel_rfl) (fun _ _ _ h => h) (Or.inl ⟨by kernel_rfl, ?_⟩) trivial ?_
            rotate_left
            · (rintro w _; go_simp; (first | done | rfl))
            try simp only [Act.put, List.getElem_toArray, List.getElem_cons_zero, List.getElem_cons_succ, List.setIfInBounds_toArray, List.set_cons_zero, List.set_cons_succ]
            refine wpAnyH_take (i := 34) (oi := _) (v := ?_) rfl (by kernel_rfl) (by kernel_rfl) (by kernel_rfl) (fun _ _ _ h => h) (Or.inl ⟨by kernel_rfl, ?_⟩) trivial ?_
            rotate_left
            · (rintro w _; go_simp; (first | done | rfl))
            try simp only [Act.put, List.getElem_toArray, List.getElem_cons_zero, List.getElem_cons_succ, List.setIfInBounds_toArray, List.set_cons_zero, List.set_cons_succ]
            refine wpAnyH_done (by kernel_rfl) ?_ _
            refine NoPanic.normal ?_
            go_wp2
            go_ret
            exact ⟨rfl, hB8.trans (hb11'.mono hB8.size)⟩
          | cons r t =>
            have hmi : ¬ m8 = i := by have := Hml.out; simp at this; omega
            have q1 : ((m8 : Int) == (i : Int)) = false := by simp; omega
            have q2 : (i : Int) < (m8 : Int) := by omega
            obtain ⟨p, o8, X8, k8_, cc8, xr, rfl, hxr, rc8, dx8⟩ := hG8.at_ (k := i) (by omega)
            obtain rfl : xr = r := by
              rw [List.getElem?_append_right (by rw [List.length_take]; omega)] at hxr
              have e0 : i - (l.take i).length = 0 := by rw [List.length_take]; have := h.len; omega
              rw [e0] at hxr
              simpa using hxr.symm
            obtain ⟨b', o', X9, k9, cc9, xl, eb, hxl2, rc9, dx9⟩ := hR8.at_ (k := i) (by omega)
            injection eb with eb
            injection eb with e1 e2
            subst e1 e2
            obtain rfl : xl = x := by
              rw [List.getElem?_eq_getElem hil2, hxi] at hxl2
              exact (Option.some.inj hxl2).symm
            have hrx : ¬ xr = xl := fun e => ht2 (by rw [e]; rfl)
            have kg : K8o w8 p (o8 + i * 8) xr (.slice X8 k8_ cc8) := rc8.all
            have kl : K8o w8 b (o + i * 8) xl (.slice X9 k9 cc9) := rc9.all
            clear hmi rc8 rc9 hxr hxl2 ht2
            go_wp2_with fail
            refine wp_region_noPanic ?_
            refine wp_region_held_drew (S := (fun w' => K8o w' p (o8 + i * 8) xr (.slice X8 k8_ cc8) ∧ K8o w' b (o + i * 8) xl (.slice X9 k9 cc9))) (by kernel_rfl) ⟨k8o_drew kg, k8o_drew kl⟩ (fun _ => ?_)
            refine wpAnyH_take (i := 0) (oi := _) (v := ?_) rfl (by kernel_rfl) (by kernel_rfl) (by kernel_rfl) (fun _ _ _ h => h) (Or.inl ⟨by kernel_rfl, ?_⟩) ⟨k8o_drew kg, k8o_drew kl⟩ ?_
            rotate_left
            · (rintro w ⟨⟨s0, s1, s2, s3, s4, s5, s6, s7⟩, ⟨u0, u1, u2, u3, u4, u5, u6, u7⟩⟩; go_simp; (first | done | rfl))
            try simp only [Act.put, List.getElem_toArray, List.getElem_cons_zero, List.getElem_cons_succ, List.setIfInBounds_toArray, List.set_cons_zero, List.set_cons_succ]
            refine wpAnyH_take (i := 1) (oi := _) (v := ?_) rfl (by kernel_rfl) (by kernel_rfl) (by kernel_rfl) (fun _ _ _ h => h) (Or.inl ⟨by kernel_rfl, ?_⟩) ⟨k8o_drew kg, k8o_drew kl⟩ ?_
            rotate_left
            · (rintro w ⟨⟨s0, s1, s2, s3, s4, s5, s6, s7⟩, ⟨u0, u1, u2, u3, u4, u5, u6, u7⟩⟩; go_simp; (first | done | rfl))
            try simp only [Act.put, List.getElem_toArray, List.getElem_cons_zero, List.getElem_cons_succ, List.setIfInBounds_toArray, List.set_cons_zero, List.set_cons_succ]
            refine wpAnyH_take (i := 2) (oi := _) (v := ?_) rfl (by kernel_rfl) (by kernel_rfl) (by kernel_rfl) (fun _ _ _ h => h) (Or.inl ⟨by kernel_rfl, ?_⟩) ⟨k8o_drew kg, k8o_drew kl⟩ ?_
            rotate_left
            · (rintro w ⟨⟨s0, s1, s2, s3, s4, s5, s6, s7⟩, ⟨u0, u1, u2, u3, u4, u5, u6, u7⟩⟩; go_simp; (first | done | rfl))
            try simp only [Act.put, List.getElem_toArray, List.getElem_cons_zero, List.getElem_cons_succ, List.setIfInBounds_toArray, List.set_cons_zero, List.set_cons_succ]
            refine wpAnyH_take (i := 3) (oi := _) (v := ?_) rfl (by kernel_rfl) (by kernel_rfl) (by kernel_rfl) (fun _ _ _ h => h) (Or.inl ⟨by kernel_rfl, ?_⟩) ⟨k8o_drew kg, k8o_drew kl⟩ ?_
            rotate_left
            · (rintro w ⟨⟨s0, s1, s2, s3, s4, s5, s6, s7⟩, ⟨u0, u1, u2, u3, u4, u5, u6, u7⟩⟩; go_simp; (first | done | rfl))
            try simp only [Act.put, List.getElem_toArray, List.getElem_cons_zero, List.getElem_cons_succ, List.setIfInBounds_toArray, List.set_cons_zero, List.set_cons_succ]
            refine wpAnyH_take (i := 4) (oi := _) (v := ?_) rfl (by kernel_rfl) (by kernel_rfl) (by kernel_rfl) (fun _ _ _ h => h) (Or.inl ⟨by kernel_rfl, ?_⟩) ⟨k8o_drew kg, k8o_drew kl⟩ ?_
            rotate_left
            · (rintro w ⟨⟨s0, s1, s2, s3, s4, s5, s6, s7⟩, ⟨u0, u1, u2, u3, u4, u5, u6, u7⟩⟩; go_simp; (first | done | rfl))
            try simp only [Act.put, List.getElem_toArray, List.getElem_cons_zero, List.getElem_cons_succ, List.setIfInBounds_toArray, List.set_cons_zero, List.set_cons_succ]
            refine wpAnyH_take (i := 5) (oi := _) (v := ?_) rfl (by kernel_rfl) (by kernel_rfl) (by kernel_rfl) (fun _ _ _ h => h) (Or.inl ⟨by kernel_rfl, ?_⟩) ⟨k8o_drew kg, k8o_drew kl⟩ ?_
            rotate_left
            · (rintro w ⟨⟨s0, s1, s2, s3, s4, s5, s6, s7⟩, ⟨u0, u1, u2, u3, u4, u5, u6, u7⟩⟩; go_simp; (first | done | rfl))
            try simp only [Act.put, List.getElem_toArray, List.getElem_cons_zero, List.getElem_cons_succ, List.setIfInBounds_toArray, List.set_cons_zero, List.set_cons_succ]
            refine wpAnyH_take (i := 6) (oi := _) (v := ?_) rfl (by kernel_rfl) (by kernel_rfl) (by kernel_rfl) (fun _ _ _ h => h) (Or.inl ⟨by kernel_rfl, ?_⟩) ⟨k8o_drew kg, k8o_drew kl⟩ ?_
            rotate_left
            · (rintro w ⟨⟨s0, s1, s2, s3, s4, s5, s6, s7⟩, ⟨u0, u1, u2, u3, u4, u5, u6, u7⟩⟩; go_simp; (first | done | rfl))
            try simp only [Act.put, List.getElem_toArray, List.getElem_cons_zero, List.getElem_cons_succ, List.setIfInBounds_toArray, List.set_cons_zero, List.set_cons_succ]
            refine wpAnyH_take (i := 7) (oi := _) (v := ?_) rfl (by kernel_rfl) (by kernel_rfl) (by kernel_rfl) (fun _ _ _ h => h) (Or.inl ⟨by kernel_rfl, ?_⟩) ⟨k8o_drew kg, k8o_drew kl⟩ ?_
            rotate_left
            · (rintro w ⟨⟨s0, s1, s2, s3, s4, s5, s6, s7⟩, ⟨u0, u1, u2, u3, u4, u5, u6, u7⟩⟩; go_simp; (first | done | rfl))
            try simp only [Act.put, List.getElem_toArray, List.getElem_cons_zero, List.getElem_cons_succ, List.setIfInBounds_toArray, List.set_cons_zero, List.set_cons_succ]
            refine wpAnyH_take (i := 8) (oi := _) (v := ?_) rfl (by kernel_rfl) (by kernel_rfl) (by kernel_rfl) (fun _ _ _ h => h) (Or.inl ⟨by kernel_rfl, ?_⟩) ⟨k8o_drew kg, k8o_drew kl⟩ ?_
            rotate_left
            · (rintro w ⟨⟨s0, s1, s2, s3, s4, s5, s6, s7⟩, ⟨u0, u1, u2, u3, u4, u5, u6, u7⟩⟩; go_simp; (first | done | rfl))
            try simp only [Act.put, List.getElem_toArray, List.getElem_cons_zero, List.getElem_cons_succ, List.setIfInBounds_toArray, List.set_cons_zero, List.set_cons_succ]
            refine wpAnyH_take (i := 9) (oi := _) (v := ?_) rfl (by kernel_rfl) (by kernel_rfl) (by kernel_rfl) (fun _ _ _ h => h) (Or.inl ⟨by kernel_rfl, ?_⟩) ⟨k8o_drew kg, k8o_drew kl⟩ ?_
            rotate_left
            · (rintro w ⟨⟨s0, s1, s2, s3, s4, s5, s6, s7⟩, ⟨u0, u1, u2, u3, u4, u5, u6, u7⟩⟩; go_simp; (first | done | rfl))
            try simp only [Act.put, List.getElem_toArray, List.getElem_cons_zero, List.getElem_cons_succ, List.setIfInBounds_toArray, List.set_cons_zero, List.set_cons_succ]
            refine wpAnyH_take (i := 10) (oi := _) (v := ?_) rfl (by kernel_rfl) (by kernel_rfl) (by kernel_rfl) (fun _ _ _ h => h) (Or.inl ⟨by kernel_rfl, ?_⟩) ⟨k8o_drew kg, k8o_drew kl⟩ ?_
            rotate_left
            · (rintro w ⟨⟨s0, s1, s2, s3, s4, s5, s6, s7⟩, ⟨u0, u1, u2, u3, u4, u5, u6, u7⟩⟩; go_simp; (first | done | rfl))
            try simp only [Act.put, List.getElem_toArray, List.getElem_cons_zero, List.getElem_cons_succ, List.setIfInBounds_toArray, List.set_cons_zero, List.set_cons_succ]
            refine wpAnyH_ready (rs := [11]) (by kernel_rfl) (by simp) (AllReadyH.cons (o := _) rfl (fun K hK => ?_) AllReadyH.nil)
            rw [if_pos (by kernel_rfl)]
            refine wp_fn 11 _ _ rfl _ rfl enters_R10 (rsame_t _ (some ⟨p, o8, none⟩) (some ⟨b, o, none⟩) i c8 c (l.take i) hGd hRd (by omega) (by omega)) ?_
            rintro e9 w9 ⟨rfl, hb9⟩
            have hb9' : Below w8.heap.size w8 w9 := Blo.below_undrew hb9
            refine ⟨_, rfl, ?_⟩
            refine hK.out _ _ ⟨k8o_below kg hb9', k8o_below kl hb9'⟩ (fun _ => ?_)
            clear hK K
            try simp only [Act.put, List.getElem_toArray, List.getElem_cons_zero, List.getElem_cons_succ, List.setIfInBounds_toArray, List.set_cons_zero, List.set_cons_succ]
            refine wpAnyH_take (i := 12) (oi := _) (v := ?_) rfl (by kernel_rfl) (by kernel_rfl) (by kernel_rfl) (fun _ _ _ h => h) (Or.inl ⟨by kernel_rfl, ?_⟩) ⟨k8o_below kg hb9', k8o_below kl hb9'⟩ ?_
            rotate_left
            · (rintro w ⟨⟨s0, s1, s2, s3, s4, s5, s6, s7⟩, ⟨u0, u1, u2, u3, u4, u5, u6, u7⟩⟩; go_simp; (first | done | rfl))
            try simp only [Act.put, List.getElem_toArray, List.getElem_cons_zero, List.getElem_cons_succ, List.setIfInBounds_toArray, List.set_cons_zero, List.set_cons_succ]
            refine wpAnyH_take (i := 13) (oi := _) (v := ?_) rfl (by kernel_rfl) (by kernel_rfl) (by kernel_rfl) (fun _ _ _ h => h) (Or.inl ⟨by kernel_rfl, ?_⟩) ⟨k8o_below kg hb9', k8o_below kl hb9'⟩ ?_
            rotate_left
            · (rintro w ⟨⟨s0, s1, s2, s3, s4, s5, s6, s7⟩, ⟨u0, u1, u2, u3, u4, u5, u6, u7⟩⟩; go_simp; (first | done | rfl))
            try simp only [Act.put, List.getElem_toArray, List.getElem_cons_zero, List.getElem_cons_succ, List.setIfInBounds_toArray, List.set_cons_zero, List.set_cons_succ]
            refine wpAnyH_take (i := 14) (oi := _) (v := ?_) rfl (by kernel_rfl) (by kernel_rfl) (by kernel_rfl) (fun _ _ _ h => h) (Or.inl ⟨by kernel_rfl, ?_⟩) ⟨k8o_below kg hb9', k8o_below kl hb9'⟩ ?_
            rotate_left
            · (rintro w ⟨⟨s0, s1, s2, s3, s4, s5, s6, s7⟩, ⟨u0, u1, u2, u3, u4, u5, u6, u7⟩⟩; go_simp; (first | done | rfl))
            try simp only [Act.put, List.getElem_toArray, List.getElem_cons_zero, List.getElem_cons_succ, List.setIfInBounds_toArray, List.set_cons_zero, List.set_cons_succ]
            refine wpAnyH_take (i := 15) (oi := _) (v := ?_) rfl (by kernel_rfl) (by kernel_rfl) (by kernel_rfl) (fun _ _ _ h => h) (Or.inl ⟨by kernel_rfl, ?_⟩) ⟨k8o_below kg hb9', k8o_below kl hb9'⟩ ?_
            rotate_left
            · (rintro w ⟨⟨s0, s1, s2, s3, s4, s5, s6, s7⟩, ⟨u0, u1, u2, u3, u4, u5, u6, u7⟩⟩; go_simp; (first | done | rfl))
            try simp only [Act.put, List.getElem_toArray, List.getElem_cons_zero, List.getElem_cons_succ, List.setIfInBounds_toArray, List.set_cons_zero, List.set_cons_succ]
            refine wpAnyH_take (i := 16) (oi := _) (v := ?_) rfl (by kernel_rfl) (by kernel_rfl) (by kernel_rfl) (fun _ _ _ h => h) (Or.inl ⟨by kernel_rfl, ?_⟩) ⟨k8o_below kg hb9', k8o_below kl hb9'⟩ ?_
            rotate_left
            · (rintro w ⟨⟨s0, s1, s2, s3, s4, s5, s6, s7⟩, ⟨u0, u1, u2, u3, u4, u5, u6, u7⟩⟩; go_simp; (first | done | rfl))
            try simp only [Act.put, List.getElem_toArray, List.getElem_cons_zero, List.getElem_cons_succ, List.setIfInBounds_toArray, List.set_cons_zero, List.set_cons_succ]
            refine wpAnyH_take (i := 17) (oi := _) (v := ?_) rfl (by kernel_rfl) (by kernel_rfl) (by kernel_rfl) (fun _ _ _ h => h) (Or.inl ⟨by kernel_rfl, ?_⟩) ⟨k8o_below kg hb9', k8o_below kl hb9'⟩ ?_
            rotate_left
            · (rintro w ⟨⟨s0, s1, s2, s3, s4, s5, s6, s7⟩, ⟨u0, u1, u2, u3, u4, u5, u6, u7⟩⟩; go_simp; (first | done | rfl))
            try simp only [Act.put, List.getElem_toArray, List.getElem_cons_zero, List.getElem_cons_succ, List.setIfInBounds_toArray, List.set_cons_zero, List.set_cons_succ]
            refine wpAnyH_take (i := 18) (oi := _) (v := ?_) rfl (by kernel_rfl) (by kernel_rfl) (by kernel_rfl) (fun _ _ _ h => h) (Or.inl ⟨by kernel_rfl, ?_⟩) ⟨k8o_below kg hb9', k8o_below kl hb9'⟩ ?_
            rotate_left
            · (rintro w ⟨⟨s0, s1, s2, s3, s4, s5, s6, s7⟩, ⟨u0, u1, u2, u3, u4, u5, u6, u7⟩⟩; go_simp; (first | done | rfl))
            try simp only [Act.put, List.getElem_toArray, List.getElem_cons_zero, List.getElem_cons_succ, List.setIfInBounds_toArray, List.set_cons_zero, List.set_cons_succ]
            refine wpAnyH_take (i := 19) (oi := _) (v := ?_) rfl (by kernel_rfl) (by kernel_rfl) (by kernel_rfl) (fun _ _ _ h => h) (Or.inl ⟨by kernel_rfl, ?_⟩) ⟨k8o_below kg hb9', k8o_below kl hb9'⟩ ?_
            rotate_left
            · (rintro w ⟨⟨s0, s1, s2, s3, s4, s5, s6, s7⟩, ⟨u0, u1, u2, u3, u4, u5, u6, u7⟩⟩; go_simp; (first | done | rfl))
            try simp only [Act.put, List.getElem_toArray, List.getElem_cons_zero, List.getElem_cons_succ, List.setIfInBounds_toArray, List.set_cons_zero, List.set_cons_succ]
            refine wpAnyH_take (i := 20) (oi := _) (v := ?_) rfl (by kernel_rfl) (by kernel_rfl) (by kernel_rfl) (fun _ _ _ h => h) (Or.inl ⟨by kernel_rfl, ?_⟩) ⟨k8o_below kg hb9', k8o_below kl hb9'⟩ ?_
            rotate_left
            · (rintro w ⟨⟨s0, s1, s2, s3, s4, s5, s6, s7⟩, ⟨u0, u1, u2, u3, u4, u5, u6, u7⟩⟩; go_simp; (first | done | rfl))
            try simp only [Act.put, List.getElem_toArray, List.getElem_cons_zero, List.getElem_cons_succ, List.setIfInBounds_toArray, List.set_cons_zero, List.set_cons_succ]
            refine wpAnyH_take (i := 21) (oi := _) (v := ?_) rfl (by kernel_rfl) (by kernel_rfl) (by kernel_rfl) (fun _ _ _ h => h) (Or.inl ⟨by kernel_rfl, ?_⟩) ⟨k8o_below kg hb9', k8o_below kl hb9'⟩ ?_
            rotate_left
            · (rintro w ⟨⟨s0, s1, s2, s3, s4, s5, s6, s7⟩, ⟨u0, u1, u2, u3, u4, u5, u6, u7⟩⟩; go_simp; (first | done | rfl))
            try simp only [Act.put, List.getElem_toArray, List.getElem_cons_zero, List.getElem_cons_succ, List.setIfInBounds_toArray, List.set_cons_zero, List.set_cons_succ]
            refine wpAnyH_take (i := 22) (oi := _) (v := ?_) rfl (by kernel_rfl) (by kernel_rfl) (by kernel_rfl) (fun _ _ _ h => h) (Or.inl ⟨by kernel_rfl, ?_⟩) ⟨k8o_below kg hb9', k8o_below kl hb9'⟩ ?_
            rotate_left
            · (rintro w ⟨⟨s0, s1, s2, s3, s4, s5, s6, s7⟩, ⟨u0, u1, u2, u3, u4, u5, u6, u7⟩⟩; go_simp; (first | done | rfl))
            try simp only [Act.put, List.getElem_toArray, List.getElem_cons_zero, List.getElem_cons_succ, List.setIfInBounds_toArray, List.set_cons_zero, List.set_cons_succ]
            refine wpAnyH_take (i := 23) (oi := _) (v := ?_) rfl (by kernel_rfl) (by kernel_rfl) (by kernel_rfl) (fun _ _ _ h => h) (Or.inl ⟨by kernel_rfl, ?_⟩) ⟨k8o_below kg hb9', k8o_below kl hb9'⟩ ?_
            rotate_left
            · (rintro w ⟨⟨s0, s1, s2, s3, s4, s5, s6, s7⟩, ⟨u0, u1, u2, u3, u4, u5, u6, u7⟩⟩; go_simp; (first | done | rfl))
            try simp only [Act.put, List.getElem_toArray, List.getElem_cons_zero, List.getElem_cons_succ, List.setIfInBounds_toArray, List.set_cons_zero, List.set_cons_succ]
            refine wpAnyH_take (i := 24) (oi := _) (v := ?_) rfl (by kernel_rfl) (by kernel_rfl) (by kernel_rfl) (fun _ _ _ h => h) (Or.inl ⟨by kernel_rfl, ?_⟩) ⟨k8o_below kg hb9', k8o_below kl hb9'⟩ ?_
            rotate_left
            · (rintro w ⟨⟨s0, s1, s2, s3, s4, s5, s6, s7⟩, ⟨u0, u1, u2, u3, u4, u5, u6, u7⟩⟩; go_simp; (first | done | rfl))
            try simp only [Act.put, List.getElem_toArray, List.getElem_cons_zero, List.getElem_cons_succ, List.setIfInBounds_toArray, List.set_cons_zero, List.set_cons_succ]
            refine wpAnyH_take (i := 25) (oi := _) (v := ?_) rfl (by kernel_rfl) (by kernel_rfl) (by kernel_rfl) (fun _ _ _ h => h) (Or.inl ⟨by kernel_rfl, ?_⟩) ⟨k8o_below kg hb9', k8o_below kl hb9'⟩ ?_
            rotate_left
            · (rintro w ⟨⟨s0, s1, s2, s3, s4, s5, s6, s7⟩, ⟨u0, u1, u2, u3, u4, u5, u6, u7⟩⟩; go_simp; (first | done | rfl))
            try simp only [Act.put, List.getElem_toArray, List.getElem_cons_zero, List.getElem_cons_succ, List.setIfInBounds_toArray, List.set_cons_zero, List.set_cons_succ]
            refine wpAnyH_take (i := 26) (oi := _) (v := ?_) rfl (by kernel_rfl) (by kernel_rfl) (by kernel_rfl) (fun _ _ _ h => h) (Or.inl ⟨by kernel_rfl, ?_⟩) ⟨k8o_below kg hb9', k8o_below kl hb9'⟩ ?_
            rotate_left
            · (rintro w ⟨⟨s0, s1, s2, s3, s4, s5, s6, s7⟩, ⟨u0, u1, u2, u3, u4, u5, u6, u7⟩⟩; go_simp; (first | done | rfl))
            try simp only [Act.put, List.getElem_toArray, List.getElem_cons_zero, List.getElem_cons_succ, List.setIfInBounds_toArray, List.set_cons_zero, List.set_cons_succ]
            refine wpAnyH_ready (rs := [27]) (by kernel_rfl) (by simp) (AllReadyH.cons (o := _) rfl (fun K hK => ?_) AllReadyH.nil)
            rw [if_pos (by kernel_rfl)]
            refine wp_fn 14 _ _ rfl _ rfl enters_One (one_f _ xr xl X8 X9 k8_ cc8 k9 cc9 (dx8.below hb9') (dx9.below hb9') hrx) ?_
            rintro e10 w10 ⟨rfl, hb10⟩
            have hb10' : Below w8.heap.size w8 w10 := below_step hb9' hb10 (Nat.le_refl _)
            refine ⟨_, rfl, ?_⟩
            refine hK.out _ _ ⟨k8o_below kg hb10', k8o_below kl hb10'⟩ (fun _ => ?_)
            clear hK K
            try simp only [Act.put, List.getElem_toArray, List.getElem_cons_zero, List.getElem_cons_succ, List.setIfInBounds_toArray, List.set_cons_zero, List.set_cons_succ]
            refine wpAnyH_take (i := 28) (oi := _) (v := ?_) rfl (by kernel_rfl) (by kernel_rfl) (by kernel_rfl) (fun _ _ _ h => h) (Or.inl ⟨by kernel_rfl, ?_⟩) ⟨k8o_below kg hb10', k8o_below kl hb10'⟩ ?_
            rotate_left
            · (rintro w ⟨⟨s0, s1, s2, s3, s4, s5, s6, s7⟩, ⟨u0, u1, u2, u3, u4, u5, u6, u7⟩⟩; go_simp; (first | done | rfl))
            try simp only [Act.put, List.getElem_toArray, List.getElem_cons_zero, List.getElem_cons_succ, List.setIfInBounds_toArray, List.set_cons_zero, List.set_cons_succ]
            refine wpAnyH_take (i := 29) (oi := _) (v := ?_) rfl (by kernel_rfl) (by kernel_rfl) (by kernel_rfl) (fun _ _ _ h => h) (Or.inl ⟨by kernel_rfl, ?_⟩) ⟨k8o_below kg hb10', k8o_below kl hb10'⟩ ?_
            rotate_left
            · (rintro w ⟨⟨s0, s1, s2, s3, s4, s5, s6, s7⟩, ⟨u0, u1, u2, u3, u4, u5, u6, u7⟩⟩; go_simp; (first | done | rfl))
            try simp only [Act.put, List.getElem_toArray, List.getElem_cons_zero, List.getElem_cons_succ, List.setIfInBounds_toArray, List.set_cons_zero, List.set_cons_succ]
            refine wpAnyH_take (i := 30) (oi := _) (v := ?_) rfl (by kernel_rfl) (by kernel_rfl) (by kernel_rfl) (fun _ _ _ h => h) (Or.inl ⟨by kernel_rfl, ?_⟩) ⟨k8o_below kg hb10', k8o_below kl hb10'⟩ ?_
            rotate_left
            · (rintro w ⟨⟨s0, s1, s2, s3, s4, s5, s6, s7⟩, ⟨u0, u1, u2, u3, u4, u5, u6, u7⟩⟩; go_simp; (first | done | rfl))
            try simp only [Act.put, List.getElem_toArray, List.getElem_cons_zero, List.getElem_cons_succ, List.setIfInBounds_toArray, List.set_cons_zero, List.set_cons_succ]
            refine wpAnyH_take (i := 31) (oi := _) (v := ?_) rfl (by kernel_rfl) (by kernel_rfl) (by kernel_rfl) (fun _ _ _ h => h) (Or.inl ⟨by kernel_rfl, ?_⟩) ⟨k8o_below kg hb10', k8o_below kl hb10'⟩ ?_
            rotate_left
            · (rintro w ⟨⟨s0, s1, s2, s3, s4, s5, s6, s7⟩, ⟨u0, u1, u2, u3, u4, u5, u6, u7⟩⟩; go_simp; (first | done | rfl))
            try simp only [Act.put, List.getElem_toArray, List.getElem_cons_zero, List.getElem_cons_succ, List.setIfInBounds_toArray, List.set_cons_zero, List.set_cons_succ]
            refine wpAnyH_ready (rs := [32]) (by kernel_rfl) (by simp) (AllReadyH.cons (o := _) rfl (fun K hK => ?_) AllReadyH.nil)
            rw [if_pos (by kernel_rfl)]
            refine wp_fn 9 _ _ rfl _ rfl enters_alive2 (alive_ _) ?_
            rintro e11 w11 ⟨rfl, hb11⟩
            have hb11' : Below w8.heap.size w8 w11 := below_step hb10' hb11 (Nat.le_refl _)
            refine ⟨_, rfl, ?_⟩
            refine hK.out _ _ ⟨k8o_below kg hb11', k8o_below kl hb11'⟩ (fun _ => ?_)
            clear hK K
            try simp only [Act.put, List.getElem_toArray, List.getElem_cons_zero, List.getElem_cons_succ, List.setIfInBounds_toArray, List.set_cons_zero, List.set_cons_succ]
            refine wpAnyH_take (i := 33) (oi := _) (v := ?_) rfl (by kernel_rfl) (by kernel_rfl) (by kernel_rfl) (fun _ _ _ h => h) (Or.inl ⟨by kernel_rfl, ?_⟩) ⟨k8o_below kg hb11', k8o_below kl hb11'⟩ ?_
            rotate_left
            · (rintro w ⟨⟨s0, s1, s2, s3, s4, s5, s6, s7⟩, ⟨u0, u1, u2, u3, u4, u5, u6, u7⟩⟩; go_simp; (first | done | rfl))
            try simp only [Act.put, List.getElem_toArray, List.getElem_cons_zero, List.getElem_cons_succ, List.setIfInBounds_toArray, List.set_cons_zero, List.set_cons_succ]
            refine wpAnyH_take (i := 34) (oi := _) (v := ?_) rfl (by kernel_rfl) (by kernel_rfl) (by kernel_rfl) (fun _ _ _ h => h) (Or.inl ⟨by kernel_rfl, ?_⟩) ⟨k8o_below kg hb11', k8o_below kl hb11'⟩ ?_
            rotate_left
            · (rintro w ⟨⟨s0, s1, s2, s3, s4, s5, s6, s7⟩, ⟨u0, u1, u2, u3, u4, u5, u6, u7⟩⟩; go_simp; (first | done | rfl))
            try simp only [Act.put, List.getElem_toArray, List.getElem_cons_zero, List.getElem_cons_succ, List.setIfInBounds_toArray, List.set_cons_zero, List.set_cons_succ]
            refine wpAnyH_done (by kernel_rfl) ?_ _
            refine NoPanic.normal ?_
            go_wp2
            go_ret
            exact ⟨rfl, hB8.trans (hb11'.mono hB8.size)⟩
      · exfalso
        have h1 := h.len
        have h2 := He.out
        rw [take_lt_enc l i (by omega), Hq.out] at h2
        omega
  · by_cases hE : E = 0
    · subst hE
      by_cases hV : V = []
      · go_enter Try.func4, Try.ntmps4
        go_wp2_with fail
        refine (enc_ _ A n c l h (by omega)).mono ?_
        rw [HEE.out, HVV.out]
        rintro e w4 ⟨v4, rfl, hown4, hb4⟩
        obtain ⟨A4, c4, rfl, hc4, hm4, ha4⟩ := own_form hown4
        subst hV
        clear hown4 hc4 hm4 ha4 hEE hVV
        go_wp2_with (first
          | (go_at_call 8
             refine (rnew_ _).mono ?_
             rintro e w5 ⟨rfl, hr5, hb5⟩
             have hB5 := hb4.trans (hb5.mono hb4.size))
          | (go_at_call 9
             refine (alive_ _).mono ?_
             rintro e w10 ⟨rfl, hb10⟩))
        go_ret
        exact ⟨rfl, hB5.trans (hb10.mono hB5.size)⟩
      · have hy : y = 0 := by
          apply Classical.byContradiction
          intro hy
          exact hmain ⟨rfl, hV, hy⟩
        have hq2 : ((V.length : Int) == 0) = false := by have := List.length_pos_iff.2 hV; simp; omega
        go_enter Try.func4, Try.ntmps4
        go_wp2_with fail
        refine (enc_ _ A n c l h (by omega)).mono ?_
        rw [HEE.out, HVV.out]
        rintro e w4 ⟨v4, rfl, hown4, hb4⟩
        obtain ⟨A4, c4, rfl, hc4, hm4, ha4⟩ := own_form hown4
        have hy2 : ((y.toNat : Int) == 0) = true := by simp [hy]
        clear hown4 hc4 hm4 ha4 hEE hVV
        go_wp2_with (first
          | (go_at_call 8
             refine (rnew_ _).mono ?_
             rintro e w5 ⟨rfl, hr5, hb5⟩
             have hB5 := hb4.trans (hb5.mono hb4.size))
          | (go_at_call 9
             refine (alive_ _).mono ?_
             rintro e w10 ⟨rfl, hb10⟩))
        go_ret
        exact ⟨rfl, hB5.trans (hb10.mono hB5.size)⟩
    · go_enter Try.func4, Try.ntmps4
      go_wp2_with fail
      refine (enc_ _ A n c l h (by omega)).mono ?_
      rw [HEE.out, HVV.out]
      rintro e w4 ⟨v4, rfl, hown4, hb4⟩
      obtain ⟨A4, c4, rfl, hc4, hm4, ha4⟩ := own_form hown4
      have hE2 : (E != 0) = true := by simp [hE]
      clear hown4 hc4 hm4 ha4 hEE hVV
      go_wp2_with (first
        | (go_at_call 8
           refine (rnew_ _).mono ?_
           rintro e w5 ⟨rfl, hr5, hb5⟩
           have hB5 := hb4.trans (hb5.mono hb4.size))
        | (go_at_call 9
           refine (alive_ _).mono ?_
           rintro e w10 ⟨rfl, hb10⟩))
      go_ret
      exact ⟨rfl, hB5.trans (hb10.mono hB5.size)⟩
end
end Str
open Str

set_option maxRecDepth 100000 in
theorem streamTurned_lifted (os : Os) (started : os.Started) (H : Type) (enc : TypeId × Value → H) :
    ReturnsInHanded {} Try.checked os 4 .any (Rows.streamTurnedSpec.pre6 enc Try.prog Try.f4 Rows.streamTurnedRow.domain false) (Rows.streamTurnedSpec.post enc Try.prog Try.f4 false true false false) := by
  refine law_lifted (C := Try.checked) (tb := 4) own_ started (by kernel_rfl) Try.func4
    (ChangeSpec.witness6 (enc := enc) (C := Try.checked) false ⟨#[], #[.slice none 0 0, .int .i64 0, .int .u8 0], []⟩ 8 (by kernel_rfl) (by kernel_rfl) (by kernel_rfl) (by kernel_rfl))
    rfl rfl Try.underlying4 laidOut_ (by kernel_rfl) (fun ds h => by match ds, h with | [_, _, _], _ => rfl) ?_
  intro W base args ds p hval0 hA0 _ hsz0
  have hval : ∀ (j : Nat) t v, Try.f4.params[j]? = some t → args[j]? = some v → Value.okWide Try.prog W .any base t v := hval0
  have hA : DataW.TrodAll enc Try.prog W 0 (fun _ => true) true Try.f4.params.toList args.toList ds p := hA0
  have hsz : (DataW.weightsEach Try.prog Try.f4.params.toList ds).all (· ≤ reachBytes) = true := hsz0
  clear hval0 hA0 hsz0
  rw [Try.params4] at hA hval hsz
  obtain ⟨v0, v1, v2, d0, d1, d2, p0, p1, p2, rfl, rfl, rfl, h0, h1, h2⟩ := trodAll_three hA
  obtain ⟨A0, n0, c0, xs0, rfl, r0, b0⟩ := arg_slice ops_recs Try.underlying22 (hval 0 _ v0 rfl rfl) h0 (weight_at hsz (j := 0) rfl rfl)
  obtain ⟨z1, rfl, hz1⟩ := arg_int _ _ Try.underlying3 (hval 1 _ v1 rfl rfl) h1 wf_i64
  obtain ⟨k2, rfl, hz2⟩ := arg_nat _ Try.underlying5 (hval 2 _ v2 rfl rfl) h2 wf_u8
  obtain ⟨q1, q2, q3⟩ := recs_rcl r0
  have e2 : k2 = (UInt8.ofNat k2).toNat := by rw [UInt8.toNat_ofNat']; omega
  rw [e2]
  exact streamTurned_walk W A0 n0 c0 _ q1 q2 q3 z1 hz1 (UInt8.ofNat k2)

/-- StreamTurned, for every input: the statement as it was given. -/
theorem streamTurned_holds : Rows.StreamTurnedSaid :=
  OpenClaim.holds_of_wide 4 Try.f4 rfl rfl rfl rfl rfl rfl rfl ⟨rfl, rfl, rfl, rfl, rfl⟩ rfl rfl rfl rfl rfl (by kernel_rfl) Try.func4 (by kernel_rfl)
    (of_decide_eq_true (by kernel_rfl)) (by unfold Func.isWrapper; first | (rw [if_pos (by decide +kernel)]; kernel_rfl) | (rw [if_neg (by decide +kernel)]; exact ⟨rfl, rfl⟩))
    (fun os started H enc _ => streamTurned_lifted os started H enc)
end Go.Proofs.Ytofoecpnphoohaa

/- Proves SumOwn of layer 1 (check sums), for every input, with no condition: bytes are not turned, and what was answered may be written over. -/
import Derived.Test.YtddcceekcpfldaaSumL
import Derived.Test.YtddcceekcpfldaaSumN
import Derived.Test.YtddcceekcpfldaaKitb
import Derived.BigRegion
namespace Go.Proofs.Ytddcceekcpfldaa
open Go.ChangeShapes Go.WideShapes Go.ChangeAt Go.RowKit

theorem xor255 (c : UInt8) : bits .xor .u8 (c.toNat : Int) 255 = ((c ^^^ 255).toNat : Int) := by
  have h := u8_xor_nat c.toNat 255 c.toNat_lt (by omega)
  rw [UInt8.toNat_xor]
  exact h
/-- What is owned, by its address. -/
theorem own_at {w : World} {base : Nat} {e : TypeId} {size : Nat} {A : Option Addr} {n c : Nat} {xs : List Value} (h : w.ownsRow base e size (.slice A n c) n xs) (hn : 0 < n) : ∃ g, A = some ⟨g, 0, none⟩ ∧ base ≤ g ∧ g < w.heap.size := by
  obtain ⟨g, cap, e1, h1, h2⟩ := h.form hn
  injection e1 with e1 _ _
  exact ⟨g, e1, h1, h2⟩

set_option maxRecDepth 100000 in
set_option maxHeartbeats 4000000 in
theorem sumOwn_walk (A : Option Addr) (n c : Nat) (xs : List UInt8) (w : World) (hr : Bs w A n xs) (hA : A = none → n = 0 ∧ c = 0) (hnc : n ≤ c) (hc : c ≤ 140737488351232) :
    Calls Try.prog 9 #[.slice A n c] w fun e w' => e = .returned (.bool true) ∧ Below w.heap.size w w' := by
  obtain ⟨i0, hi0, hz0, hz1, hz2⟩ := info_parts info_u8
  have Hz := Lib.hid hz2
  have hA0 : A = none → n = 0 := fun h => (hA h).1
  have Hl := Lib.hid hr.len
  have k1 := run_str (P := Try.prog) hr hA0 24 9 5 Try.underlying24 Try.underlying5 Try.underlying9 c
  have hmk := run_make (P := Try.prog) w 24 5 i0 _ Try.underlying24 hi0 hz0 .i64 .i64 0 ((n : Int) + 9) (by omega) (by omega) (by rw [Hz.out]; omega) (by omega)
  rw [hz1, Nat.mul_one, show ((n : Int) + 9).toNat = n + 9 from rfl, show (0 : Int).toNat = 0 from rfl, show (Value.int IntKind.u8 0).cells = #[Value.int IntKind.u8 0] from rfl] at hmk
  have hsz0 := size_madeCells #[Value.int IntKind.u8 0] (n + 9)
  have hmc : (madeCells #[Value.int IntKind.u8 0] (n + 9)).toList = List.replicate (n + 9) (Value.int IntKind.u8 0) := toList_madeCells_one _ _
  generalize madeCells #[Value.int IntKind.u8 0] (n + 9) = M at *
  have Hmc := Lib.hid hmc
  have Hsz0 := Lib.hid hsz0
  clear hz2 hmc hsz0 hA
  go_enter Try.func9, Try.ntmps9
  go_wp2_with (first
    | (at_builtin
       refine wpList_app_room _ rfl (.tmp 19) (.tmp 20) _ rfl 5 i0 1 Try.underlying24 hi0 hz1 w.heap.size 0 (n + 9) M rfl (heap_alloc_new w _) A n c (bvs xs) rfl hA0 (hr.alloc _) (bvs_one xs) (by omega) (by rw [Hsz0.out, bvs_length, ← Hl.out]; omega) ?_
       intro w2 hh2 hg2
       rw [Nat.zero_mul, List.take_zero, List.nil_append, Nat.zero_add, Hmc.out, bvs_length, ← Hl.out, List.drop_replicate, show n + 9 - n = 9 by omega] at hh2
       have hb2 : Below w.heap.size w w2 := ((Below.refl _ _).alloc (Nat.le_refl _) _).grown hg2 (by simp) (fun k hk => by cases hk; exact Nat.le_refl _)
       rw [Nat.zero_add]))
  have hlen2 : (bvs xs ++ List.replicate 9 (Value.int IntKind.u8 0)).toArray.size = n + 9 := by simp [bvs_length, ← Hl.out]
  have hr2 : Bs w2 (some ⟨w.heap.size, 0, none⟩) n xs := rd_block hh2 (by rw [List.drop_zero]; simp; rw [List.take_append_of_le_length (by rw [bvs_length, ← Hl.out]; exact Nat.le_refl _), List.take_of_length_le (by rw [bvs_length, ← Hl.out]; exact Nat.le_refl _)]) (by rw [hlen2]; omega)
  have hz2 : Rd w2 (some ⟨w.heap.size, n, none⟩) 1 9 (List.replicate 9 (Value.int IntKind.u8 0)) := rd_block hh2 (by simp; rw [List.drop_append_of_le_length (by rw [bvs_length, ← Hl.out]; exact Nat.le_refl _), List.drop_of_length_le (by rw [bvs_length, ← Hl.out]; exact Nat.le_refl _)]; rfl) (by rw [hlen2]; omega)
  have hlt2 : w.heap.size < w2.heap.size := by have := hg2.size; simp at this; omega
  clear hlen2 hh2 hmk hg2
  refine (seal_ _ _ _ _ _ hr2 (by simp) (by omega) (by omega) (by omega)).mono ?_
  rintro e w3 ⟨v3, rfl, hown3, hb3⟩
  obtain ⟨A3, c3, rfl, hc3, hm3, ha3⟩ := own_form hown3
  obtain ⟨g3, rfl, hg3, hl3⟩ := own_at hown3 (by omega)
  unfold maxLen at hm3
  go_wp2_with fail
  refine (open_ _ _ _ _ _ (bs_own hown3) ha3 hc3 (by omega) (by omega)).mono ?_
  rw [openL_seal, openE_seal]
  rintro e w4 ⟨v4, rfl, hown4, hb4⟩
  rw [← Hl.out] at hown4
  obtain ⟨A4, c4, rfl, hc4, hm4, ha4⟩ := own_form hown4
  have hb24 : Below w2.heap.size w2 w4 := below_step hb3 hb4 (Nat.le_refl _)
  have hb04 : Below w.heap.size w w4 := below_step hb2 hb24 (Nat.le_refl _)
  unfold maxLen at hm4
  have K1 := Lib.hid k1
  clear k1
  go_wp2
  go_loopw [31] (fun v wr => ∃ k : Nat, k ≤ n ∧ v = .int .i64 k ∧ Below w3.heap.size w4 wr ∧ ∃ ys : List UInt8, wr.ownsRow w3.heap.size 5 1 (.slice A4 n c4) n (bvs ys)) (fun v _ => n - (intOf v).toNat)
  case atStart => exact ⟨0, Nat.zero_le _, rfl, Below.refl _ _, xs, hown4⟩
  case round =>
    obtain ⟨k, hk, rfl, hbr, ys, hown⟩ := hrel
    by_cases hkn : k < n
    · obtain ⟨g4, rfl, hg4, hl4⟩ := own_at hown (by omega)
      have hyl : ys.length = n := by have := hown.1; rw [bvs_length] at this; omega
      have hky : k < ys.length := by omega
      have q1 : wr.cell? ⟨g4, k, none⟩ = some (.int .u8 (ys[k].toNat : Int)) := by
        rw [hown.cellAt k (by omega)]
        simp only [bvs, bv, List.getElem?_map, List.getElem?_eq_getElem hky]; rfl
      have q2 := hown.frozenAt k
      have q3 := xor255 ys[k]
      have hst := (hown.stored k (bv (ys[k] ^^^ 255))).1
      rw [show (bvs ys).set k (bv (ys[k] ^^^ 255)) = bvs (ys.set k (ys[k] ^^^ 255)) by simp only [bvs, List.map_set]] at hst
      have Hst := Lib.hid hst
      have hb' := hbr.setCell (p := ⟨g4, k, none⟩) hg4 (bv (ys[k] ^^^ 255))
      have Hb := Lib.hid hb'
      clear hst hb' hown hyl hown4 hown3
      go_wp2
      go_roundw
      case rel => exact ⟨k + 1, by omega, by go_num, Hb.out, _, Hst.out⟩
      case measure => simp [intOf]; omega
    · have hb05 : Below w.heap.size w wr := hb04.trans (hbr.mono (by have := hb24.size; have := hb3.size; omega))
      have hb25 : Below w2.heap.size w2 wr := hb24.trans (hbr.mono hb3.size)
      have hb35 : Below w3.heap.size w3 wr := hb4.trans hbr
      clear hown hbr hown4 hb4 hb24 hb04 ha4 hc4
      go_wp2_with fail
      refine (seal_ _ _ _ _ _ (hr.below hb05) hA0 hnc (by omega) (by omega)).mono ?_
      rintro e w6 ⟨v6, rfl, hown6, hb6⟩
      obtain ⟨A6, c6, rfl, hc6, hm6, ha6⟩ := own_form hown6
      have hb06 := below_step hb05 hb6 (Nat.le_refl _)
      have hb26 := below_step hb25 hb6 (Nat.le_refl _)
      have hb36 := below_step hb35 hb6 (Nat.le_refl _)
      have hx6 := own_keep hown3 hb36
      have q : (xs ++ sumBytes (adOf [xs]) == xs ++ sumBytes (adOf [xs])) = true := by simp
      go_wp2_with fail
      refine (same_ _ _ _ _ _ _ _ _ _ (bs_own hx6) (bs_own hown6) (by simp) (fun h => (ha6 h).1)).mono ?_
      rw [q]
      rintro e w' ⟨rfl, rfl⟩
      clear q hown6 hb6 hb05 hb25 hb35 ha6 hc6 hb36
      go_wp2
      go_loopw [47] (fun v wr => ∃ k : Nat, k ≤ n + 4 ∧ v = .int .i64 k ∧ Below w2.heap.size w6 wr ∧ ∃ ys : List UInt8, wr.ownsRow w2.heap.size 5 1 (.slice (some ⟨g3, 0, none⟩) (n + 4) c3) (n + 4) (bvs ys)) (fun v _ => n + 4 - (intOf v).toNat)
      case atStart => exact ⟨0, Nat.zero_le _, rfl, Below.refl _ _, _, hx6⟩
      case round =>
        obtain ⟨k, hk, rfl, hbr, ys, hown⟩ := hrel
        by_cases hkn : k < n + 4
        · have hyl : ys.length = n + 4 := by have := hown.1; rw [bvs_length] at this; omega
          have hky : k < ys.length := by omega
          have q1 : wr.cell? ⟨g3, k, none⟩ = some (.int .u8 (ys[k].toNat : Int)) := by
            rw [hown.cellAt k (by omega)]
            simp only [bvs, bv, List.getElem?_map, List.getElem?_eq_getElem hky]; rfl
          have q2 := hown.frozenAt k
          have q3 := xor255 ys[k]
          have hst := (hown.stored k (bv (ys[k] ^^^ 255))).1
          rw [show (bvs ys).set k (bv (ys[k] ^^^ 255)) = bvs (ys.set k (ys[k] ^^^ 255)) by simp only [bvs, List.map_set]] at hst
          have Hst := Lib.hid hst
          have hb' := hbr.setCell (p := ⟨g3, k, none⟩) hg3 (bv (ys[k] ^^^ 255))
          have Hb := Lib.hid hb'
          clear hst hb' hown hyl hown3
          go_wp2
          go_roundw
          case rel => exact ⟨k + 1, by omega, by go_num, Hb.out, _, Hst.out⟩
          case measure => simp [intOf]; omega
        · have hb07 : Below w.heap.size w wr := hb06.trans (hbr.mono (by omega))
          have hb27 : Below w2.heap.size w2 wr := hb26.trans hbr
          have hz7 := hz2.below hb27
          have hr7 := hr.below hb07
          have hr27 := hr2.below hb27
          clear hown hbr hown3 hx6 hb06 hb26 hr hr2 hz2 ha3
          have t1 : (n : Int) ≤ (n : Int) + 9 := by omega
          have t2 : ¬ n + 9 = n := by omega
          go_wp2
          go_loop [9, 67] (fun q v => q = .bool true ∧ ∃ k : Nat, k ≤ 9 ∧ v = .int .i64 k) (fun _ v => 9 - (intOf v).toNat)
          case atStart => exact ⟨rfl, 0, Nat.zero_le _, rfl⟩
          case round =>
            obtain ⟨rfl, j, hj, rfl⟩ := hrel
            by_cases hj9 : j < 9
            · obtain ⟨b, o, e, hjx, hcell⟩ := hz7.at_ hj9
              injection e with e
              injection e with e1 e2
              subst e1 e2
              rw [List.getElem_replicate] at hcell
              clear hz7 hr7 hr27
              go_wp2
              go_round
              case rel => exact ⟨rfl, j + 1, by omega, by go_num⟩
              case measure => simp [intOf]; omega
            · have k2 := run_str (P := Try.prog) hr7 hA0 24 9 5 Try.underlying24 Try.underlying5 Try.underlying9 c
              have k3 := run_str (P := Try.prog) hr27 (by simp) 24 9 5 Try.underlying24 Try.underlying5 Try.underlying9 (n + 9)
              have q : (xs == xs) = true := by simp
              clear hz7 hr7 hr27
              go_wp2_with (refine (alive_ _).mono ?_; rintro e w9 ⟨rfl, hb9⟩)
              go_ret
              exact ⟨rfl, below_step hb07 hb9 (Nat.le_refl _)⟩

theorem sumOwn_lifted (os : Os) (started : os.Started) (H : Type) (enc : TypeId × Value → H) :
    ReturnsInHanded {} Try.checked os 9 .any (Rows.sumOwnSpec.pre6 enc Try.prog Try.f9 Rows.sumOwnRow.domain false) (Rows.sumOwnSpec.post enc Try.prog Try.f9 false true false false) := by
  refine law_lifted (C := Try.checked) (tb := 4) own_ started (by kernel_rfl) Try.func9
    (ChangeSpec.witness6 (enc := enc) (C := Try.checked) false ⟨#[], #[.slice none 0 0], []⟩ 8 (by kernel_rfl) (by kernel_rfl) (by kernel_rfl) (by kernel_rfl))
    rfl rfl Try.underlying4 laidOut_ (by kernel_rfl) (fun ds h => by match ds, h with | [_], _ => rfl) ?_
  intro W base args ds p hval0 hA0 _ hsz0
  have hval : ∀ (j : Nat) t v, Try.f9.params[j]? = some t → args[j]? = some v → Value.okWide Try.prog W .any base t v := hval0
  have hA : DataW.TrodAll enc Try.prog W 0 (fun _ => true) true Try.f9.params.toList args.toList ds p := hA0
  have hsz : (DataW.weightsEach Try.prog Try.f9.params.toList ds).all (· ≤ reachBytes) = true := hsz0
  clear hval0 hA0 hsz0
  rw [Try.params9] at hA hval hsz
  obtain ⟨v0, d0, rfl, rfl, h0⟩ := trodAll_one hA
  obtain ⟨A0, n0, c0, xs0, rfl, hb0, hn0, ha0, hm0, hw0⟩ := open_bytes Try.underlying24 Try.underlying5 cells_u8 bytes_u8 (hval 0 _ v0 rfl rfl) h0
  have hc0 := hw0 (weight_at hsz (j := 0) rfl rfl)
  exact sumOwn_walk A0 n0 c0 xs0 W hb0 ha0 hn0 hc0

/-- SumOwn, for every input: the statement as it was given. -/
theorem sumOwn_holds : Rows.SumOwnSaid :=
  OpenClaim.holds_of_wide 9 Try.f9 rfl rfl rfl rfl rfl rfl rfl ⟨rfl, rfl, rfl, rfl, rfl⟩ rfl rfl rfl rfl rfl (by kernel_rfl) Try.func9 (by kernel_rfl)
    (of_decide_eq_true (by kernel_rfl)) (by unfold Func.isWrapper; first | (rw [if_pos (by decide +kernel)]; kernel_rfl) | (rw [if_neg (by decide +kernel)]; exact ⟨rfl, rfl⟩))
    (fun os started H enc _ => sumOwn_lifted os started H enc)
end Go.Proofs.Ytddcceekcpfldaa

/- Proves PackPuts of layer 2 (numbers and parts), where what it reads is of bulk at most 1048576: numbers and parts are put behind one another as the document says. -/
import Derived.Test.YtimppkddpfhceaaPackWb
import Derived.Test.YtimppkddpfhceaaPackT
import Derived.Test.YtimppkddpfhceaaSame
import Derived.Test.YtimppkddpfhceaaShp
namespace Go.Proofs.Ytimppkddpfhceaa
open Go.ChangeShapes Go.WideShapes Go.ChangeAt Go.RowKit

theorem own_ : ownKnob Try.prog.godebug = none := by kernel_rfl
theorem laidOut_ : laidOutB Try.prog = true := by kernel_rfl

/-- A Writer is put to, or its bytes are taken: what lies below it stays. -/
theorem wr_base {w w' : World} {bw : Nat} (h : w.grownBy w' (some bw)) {B : Nat} (hB : B ≤ bw) (hl : bw < w.heap.size) : Below B w w' := grown_below h (by omega) (fun k e => by injection e with e; omega)

/-- The bytes of alive's Writer. -/
def alL : List UInt8 := [1, 0, 0, 0, 0, 0, 0, 0, 0, 1, 0, 0, 0, 0, 0, 0, 2, 0, 0, 0, 0, 0, 0, 0, 97, 98]
theorem alL_len : alL.length = 26 := rfl
theorem alL_get : rGet alL ⟨0, 0, 0⟩ = (1, ⟨8, 0, 0⟩) := by kernel_rfl
theorem alL_int : rInt alL 300 ⟨8, 0, 0⟩ = (256, ⟨16, 0, 0⟩) := by kernel_rfl
theorem alL_part : rPart alL ⟨16, 0, 0⟩ = ([97, 98], ⟨26, 0, 0⟩) := by kernel_rfl
theorem alL_end : rEnd alL ⟨26, 0, 0⟩ = ⟨26, 0, 0⟩ := by kernel_rfl

set_option maxRecDepth 100000 in
set_option maxHeartbeats 2000000 in
theorem alive_ (w : World) :
    Calls Try.prog 14 #[] w fun e w' => e = .returned (.bool true) ∧ Below w.heap.size w w' := by
  have d1 : numsBytes [1, 256] = [1, 0, 0, 0, 0, 0, 0, 0, 0, 1, 0, 0, 0, 0, 0, 0] := by decide
  have d2 : partsBytes [[97, 98]] = [2, 0, 0, 0, 0, 0, 0, 0, 97, 98] := by decide
  have kc := fun (w : World) (C : Array Value) (n c g : Nat) (hg : g = w.heap.size) => Joins.run_convert_bytes_const_at (P := Try.prog) w 30 5 C n c g hg Try.underlying30 Try.underlying5
  go_enter Try.func14, Try.ntmps14
  go_wp2_with fail
  refine (put_ w.heap.size [] _ _ _ [1, 256] _ ((Wr.new w rfl).below ((Below.refl _ _).alloc (Nat.le_refl _) _)) (Ns.new _ _ (by decide) _ (by simp) rfl rfl) (by decide) (by decide) (by decide)).mono ?_
  rintro e w1 ⟨rfl, hw1, hg1⟩
  rw [d1] at hw1
  have hb1 : Below w.heap.size w w1 := ((((Below.refl _ w).alloc (Nat.le_refl _) _).alloc (by simp) _)).trans (wr_base hg1 (Nat.le_refl _) (by simp; omega))
  clear hg1 d1
  have hl1 := hw1.lt
  go_wp2_with fail
  refine (part_ w.heap.size _ _ 1 1 [[97, 98]] _ ((hw1.below ((Below.refl _ _).alloc (Nat.le_refl _) _)).below ((Below.refl _ _).alloc (Nat.le_refl _) _)) (Bss.row1 (by simp) (Bs.new w1 [97, 98] _ _) (by decide) (by decide)) (by decide) (by decide) (by decide)).mono ?_
  rintro e w2 ⟨rfl, hw2, hg2⟩
  rw [d2] at hw2
  replace hw2 : Wr w2 w.heap.size alL := hw2
  have hb2 : Below w.heap.size w w2 := ((hb1.alloc hb1.size _).alloc (by simp; omega) _).trans (wr_base hg2 (Nat.le_refl _) (by simp; omega))
  clear hg2 d2 kc hw1 hb1 hl1
  have hl2 := hw2.lt
  have L := Lib.hid alL_len
  go_wp2_with fail
  refine (bytes_ w.heap.size alL _ hw2 (by rw [L.out]; decide)).mono ?_
  rintro e w3 ⟨rfl, hk3, hb3⟩
  have hw3 := hw2.below hb3
  have hs3 := bs_blk hk3
  rw [L.out] at hs3 ⊢
  have hB3 : Below w.heap.size w w3 := hb2.trans (hb3.mono hb2.size)
  clear hk3
  go_wp2_with fail
  refine (new_ _ 26 26 alL _ hs3 (by simp) (by decide) (by decide) (by decide)).mono ?_
  rintro e w4 ⟨br, rfl, hbr, hr4, hb4⟩
  have hw4 := hw3.below hb4
  have hB4 : Below w.heap.size w w4 := hB3.trans (hb4.mono hB3.size)
  have hbr2 : w.heap.size ≤ br := Nat.le_trans hB3.size hbr
  clear hb3 hb4 hs3 hw3 hw2 hb2 hl2
  go_wp2_with fail
  refine (bytes_ w.heap.size alL _ hw4 (by rw [L.out]; decide)).mono ?_
  rintro e w5 ⟨rfl, hk5, hb5⟩
  rw [L.out]
  have hr5 := hr4.below hb5
  have hB5 : Below w.heap.size w w5 := hB4.trans (hb5.mono hB4.size)
  clear hk5 hb5 hr4 hw4
  go_wp2_with fail
  refine (get_ br alL _ _ hr5 (by rw [L.out]; decide)).mono ?_
  rw [alL_get]
  rintro e w6 ⟨rfl, hr6, hg6⟩
  have hB6 : Below w.heap.size w w6 := hB5.trans (wr_base hg6 hbr2 (Rr.lt hr5))
  go_wp2_with fail
  refine (int_ br alL _ 300 _ hr6 (by rw [L.out]; decide) (by decide)).mono ?_
  rw [alL_int]
  rintro e w7 ⟨rfl, hr7, hg7⟩
  have hB7 : Below w.heap.size w w7 := hB6.trans (wr_base hg7 hbr2 (Rr.lt hr6))
  go_wp2_with fail
  refine (rpart_ br alL _ _ hr7 (by rw [L.out]; decide)).mono ?_
  rw [alL_part]
  rintro e w8 ⟨v, rfl, hown8, hr8, hg8⟩
  have hB8 : Below w.heap.size w w8 := hB7.trans (wr_base hg8 hbr2 (Rr.lt hr7))
  obtain ⟨A8, c8, rfl, hc8, hm8, ha8⟩ := own_form hown8
  have hbs8 : Bs w8 A8 2 [97, 98] := bs_own hown8
  have k1 := run_str hbs8 (fun h => (ha8 h).1) 30 9 5 Try.underlying30 Try.underlying5 Try.underlying9 c8
  clear hg6 hg7 hg8 hr5 hr6 hr7 hown8 hbs8 hB3 hB4 hB5 hB6 hB7
  go_wp2_with fail
  refine (rleft_ br alL _ _ hr8).mono ?_
  rw [L.out]
  rintro e w9 ⟨rfl, k, rfl⟩
  go_wp2_with fail
  refine (end_ br alL _ _ (Rr.drewN hr8 k)).mono ?_
  rw [alL_end]
  rintro e w9 ⟨rfl, hr9, hg9⟩
  have hB9 : Below w.heap.size w w9 := hB8.trans (wr_base (grown_of_drewN hg9) hbr2 (Rr.lt hr8))
  clear hr8 hg9 hB8 k1
  go_wp2
  go_ret
  exact ⟨rfl, hB9⟩

set_option maxRecDepth 100000 in
set_option maxHeartbeats 2000000 in
theorem packPuts_walk (A1 A2 A3 : Option Addr) (n1 c1 n2 c2 n3 c3 : Nat) (a : List Nat) (l : List (List UInt8)) (b : List Nat) (w : World) (ha : Ns w A1 n1 a) (hl : Bss w A2 n2 l) (hb : Ns w A3 n3 b)
    (e1 : n1 ≤ c1) (e2 : n2 ≤ c2) (e3 : n3 ≤ c3) (m1 : c1 ≤ 9223372036854775807) (m2 : c2 ≤ 9223372036854775807) (m3 : c3 ≤ 9223372036854775807) (hn : 8 * n1 + (partsBytes l).length + 8 * n3 ≤ 140737488355328) :
    Calls Try.prog 3 #[.slice A1 n1 c1, .slice A2 n2 c2, .slice A3 n3 c3] w fun e w' => e = .returned (.bool true) ∧ Below w.heap.size w w' := by
  have hb0 : Below w.heap.size w (w.alloc (.cells #[.pointer none, .int .i64 0] 26)) := (Below.refl _ _).alloc (Nat.le_refl _) _
  have L1 := Lib.hid (numsBytes_length a)
  have L2 := Lib.hid ha.len
  have L3 := Lib.hid (numsBytes_length b)
  have L4 := Lib.hid hb.len
  go_enter Try.func3, Try.ntmps3
  go_wp2_with fail
  refine (put_ w.heap.size [] _ _ _ a _ (Wr.new w rfl) (ha.below hb0) e1 m1 (by simp; omega)).mono ?_
  rintro e w1 ⟨rfl, hw1, hg1⟩
  rw [List.nil_append] at hw1
  have hb1 : Below w.heap.size w w1 := hb0.trans (wr_base hg1 (Nat.le_refl _) (by simp))
  go_wp2_with fail
  refine (part_ w.heap.size _ _ _ _ l _ hw1 (hl.below hb1) e2 m2 (by rw [L1.out, ← L2.out]; omega)).mono ?_
  rintro e w2 ⟨rfl, hw2, hg2⟩
  have hb2 : Below w.heap.size w w2 := hb1.trans (wr_base hg2 (Nat.le_refl _) hw1.lt)
  go_wp2_with fail
  refine (put_ w.heap.size _ _ _ _ b _ hw2 (hb.below hb2) e3 m3 (by rw [List.length_append, L1.out, ← L2.out]; omega)).mono ?_
  rintro e w3 ⟨rfl, hw3, hg3⟩
  have hb3 : Below w.heap.size w w3 := hb2.trans (wr_base hg3 (Nat.le_refl _) hw2.lt)
  go_wp2_with fail
  have hX : (numsBytes a ++ partsBytes l ++ numsBytes b).length ≤ 140737488355328 := by rw [List.length_append, List.length_append, L1.out, ← L2.out, L3.out, ← L4.out]; omega
  generalize hXe : numsBytes a ++ partsBytes l ++ numsBytes b = X at hw3 hX
  have HX := Lib.hid hXe
  clear hXe
  refine (bytes_ w.heap.size X _ hw3 hX).mono ?_
  rintro e w4 ⟨rfl, hk4, hb4⟩
  have hB4 : Below w.heap.size w w4 := hb3.trans (hb4.mono hb3.size)
  have hs4 := bs_blk hk4
  clear hg1 hg2 hg3 hb1 hb2 hb3 hw1 hw2 hw3 hk4 hb4 hb0
  go_wp2_with fail
  refine (refPut none A1 0 0 n1 c1 [] a _ Bs.nil (by simp) (by simp) (ha.below hB4) m1 e1 (by omega)).mono ?_
  rintro e w5 ⟨v5, rfl, hown5, hb5⟩
  rw [Nat.zero_add] at hown5
  have hB5 : Below w.heap.size w w5 := hB4.trans (hb5.mono hB4.size)
  obtain ⟨A5, c5, rfl, hc5, hm5, ha5⟩ := own_form hown5
  have hs5 := bs_own hown5
  have hs4 := hs4.below hb5
  unfold maxLen at hm5
  clear hown5 hb5
  go_wp2_with fail
  refine (refPart A5 A2 _ c5 n2 c2 _ l _ hs5 hs5.zero hc5 hm5 (hl.below hB5) m2 e2 (by omega)).mono ?_
  rintro e w6 ⟨A6, n6, c6, rfl, hs6, hz6, hc6, hm6, hb6⟩
  have hB6 : Below w.heap.size w w6 := hB5.trans (hb6.mono hB5.size)
  have hs4 := hs4.below hb6
  have L6 := Lib.hid hs6.len
  have l6 : n6 = 8 * n1 + (partsBytes l).length := by rw [L6.out, List.length_append, List.length_append, L1.out, ← L2.out]; simp
  have L6' := Lib.hid l6
  clear l6 hb6 hs5 hm5
  go_wp2_with fail
  refine (refPut A6 A3 n6 c6 n3 c3 _ b _ hs6 hz6 hc6 (hb.below hB6) m3 e3 (by rw [L6'.out]; omega)).mono ?_
  rintro e w7 ⟨v7, rfl, hown7, hb7⟩
  have hB7 : Below w.heap.size w w7 := hB6.trans (hb7.mono hB6.size)
  obtain ⟨A7, c7, rfl, hc7, hm7, ha7⟩ := own_form hown7
  have hs7 := bs_own hown7
  have hs4 := hs4.below hb7
  clear hown7 hb7 hs6 hm7
  go_wp2_with fail
  refine (same_ _ _ _ _ _ _ _ _ _ hs4 hs7 (by simp) hs7.zero).mono ?_
  rintro e w' ⟨rfl, rfl⟩
  rw [show ((X == [] ++ numsBytes a ++ partsBytes l ++ numsBytes b) = true) by rw [← HX.out]; simp]
  clear hs4 hs7
  go_wp2_with (refine (alive_ _).mono ?_; rintro e w8 ⟨rfl, hb8⟩)
  go_ret
  exact ⟨rfl, below_step hB7 hb8 (Nat.le_refl _)⟩

theorem ops_bytes : Opens Try.prog 30 (Shp.slice Shp.u8 1) := opens_slice 1 Try.underlying30 (by kernel_rfl) (by kernel_rfl) (by decide) (opens_u8 Try.underlying5 (by kernel_rfl))
theorem ops_bytess : Opens Try.prog 23 (Shp.slice (Shp.slice Shp.u8 1) 24) := opens_slice 24 Try.underlying23 (by kernel_rfl) (by kernel_rfl) (by decide) ops_bytes
theorem ops_u64s : Opens Try.prog 22 (Shp.slice (Shp.nat .u64 18446744073709551616) 8) := opens_slice 8 Try.underlying22 (by kernel_rfl) (by kernel_rfl) (by decide) (opens_nat _ Try.underlying38 (by kernel_rfl) wf_u64)

set_option maxRecDepth 100000 in
theorem packPuts_lifted (os : Os) (started : os.Started) (H : Type) (enc : TypeId × Value → H) (F : Stop.Interp) :
    ReturnsInHanded {} Try.checked os 3 .any ((Rows.OpenSpec.upto Rows.packPutsSpec).pre6 enc Try.prog Try.f3 Rows.packPutsUptoRow.domain false) (((Rows.OpenSpec.upto Rows.packPutsSpec).at F).post enc Try.prog Try.f3 false true false false) := by
  refine law_upto (C := Try.checked) (tb := 4) own_ started (by kernel_rfl) Try.func3
    (OpenSpec.witness (enc := enc) (C := Try.checked) (s := Rows.OpenSpec.upto Rows.packPutsSpec) (k := Rows.uptoSmall) rfl false ⟨#[], #[.slice none 0 0, .slice none 0 0, .slice none 0 0], []⟩ 8 (by kernel_rfl) (by kernel_rfl) (by kernel_rfl) (x := ([.nil, .nil, .nil], [], [])) (by kernel_rfl) rfl (by kernel_rfl))
    rfl rfl Try.underlying4 laidOut_ (by kernel_rfl) (fun ds h => by match ds, h with | [_, _, _], _ => rfl) ?_
  intro W base args ds p hval0 hA0 _ hsz0 hbulk
  have hval : ∀ (j : Nat) t v, Try.f3.params[j]? = some t → args[j]? = some v → Value.okWide Try.prog W .any base t v := hval0
  have hA : DataW.TrodAll enc Try.prog W 0 (fun _ => true) true Try.f3.params.toList args.toList ds p := hA0
  have hsz : (DataW.weightsEach Try.prog Try.f3.params.toList ds).all (· ≤ reachBytes) = true := hsz0
  clear hval0 hA0 hsz0
  rw [Try.params3] at hA hval hsz
  obtain ⟨v0, v1, v2, d0, d1, d2, p0, p1, p2, rfl, rfl, rfl, h0, h1, h2⟩ := trodAll_three hA
  have hB : Rows.uptoBulk d0 + Rows.uptoBulk d1 + Rows.uptoBulk d2 ≤ 1048576 := by simp only [Rows.uptoBulkAll] at hbulk; omega
  obtain ⟨A0, n0, c0, xs0, rfl, r0, b0⟩ := arg_slice ops_u64s Try.underlying22 (hval 0 _ v0 rfl rfl) h0 (weight_at hsz (j := 0) rfl rfl)
  obtain ⟨hb0, hn0, ha0, hc0⟩ := ns_shp r0
  obtain ⟨A1, n1, c1, xs1, rfl, r1, b1⟩ := arg_slice ops_bytess Try.underlying23 (hval 1 _ v1 rfl rfl) h1 (weight_at hsz (j := 1) rfl rfl)
  obtain ⟨hb1, hn1, ha1, hc1, hp1⟩ := bss_shp r1
  obtain ⟨A2, n2, c2, xs2, rfl, r2, b2⟩ := arg_slice ops_u64s Try.underlying22 (hval 2 _ v2 rfl rfl) h2 (weight_at hsz (j := 2) rfl rfl)
  obtain ⟨hb2, hn2, ha2, hc2⟩ := ns_shp r2
  have hl1 := partsBytes_length xs1
  have hs1 := bulks_parts xs1
  have hs0 := bulks_nat .u64 18446744073709551616 xs0
  have hs2 := bulks_nat .u64 18446744073709551616 xs2
  exact packPuts_walk A0 A1 A2 n0 c0 n1 c1 n2 c2 xs0 xs1 xs2 W hb0 hb1 hb2 hn0 hn1 hn2 (by omega) hc1 (by omega) (by have := hb0.len; have := hb2.len; omega)

/-- PackPuts, where what it reads is of bulk at most 1048576: the statement as it was given. -/
theorem packPuts_holds : Rows.PackPutsUptoSaid :=
  OpenClaim.holds_of_cond 3 Try.f3 rfl rfl rfl rfl rfl rfl rfl ⟨rfl, rfl, rfl, rfl, rfl⟩ rfl rfl rfl rfl rfl (by kernel_rfl) Try.func3 (by kernel_rfl)
    (of_decide_eq_true (by kernel_rfl)) (by unfold Func.isWrapper; first | (rw [if_pos (by decide +kernel)]; kernel_rfl) | (rw [if_neg (by decide +kernel)]; exact ⟨rfl, rfl⟩))
    (fun os started H enc _ F => packPuts_lifted os started H enc F)
end Go.Proofs.Ytimppkddpfhceaa

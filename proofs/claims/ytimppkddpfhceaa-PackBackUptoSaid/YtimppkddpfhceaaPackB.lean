/- Proves PackBack of layer 2 (numbers and parts), where what it reads is of bulk at most 1048576: what was put is got, in order. -/
import Derived.Test.YtimppkddpfhceaaPackL
import Derived.Test.YtimppkddpfhceaaPackN
namespace Go.Proofs.Ytimppkddpfhceaa
open Go.ChangeShapes Go.WideShapes Go.ChangeAt Go.RowKit

set_option maxRecDepth 100000 in
set_option maxHeartbeats 2000000 in
theorem packBack_walk (A1 A2 : Option Addr) (n1 c1 n2 c2 : Nat) (a : List Nat) (l : List (List UInt8)) (w : World) (ha : Ns w A1 n1 a) (hl : Bss w A2 n2 l)
    (e1 : n1 ≤ c1) (e2 : n2 ≤ c2) (m1 : c1 ≤ 9223372036854775807) (m2 : c2 ≤ 9223372036854775807) (hn : 8 * n1 + (partsBytes l).length ≤ 140737488351300) (hp : ∀ p ∈ l, p.length ≤ 2147483648) :
    Calls Try.prog 4 #[.slice A1 n1 c1, .slice A2 n2 c2] w fun e w' => e = .returned (.bool true) ∧ Below w.heap.size w w' := by
  have hb0 : Below w.heap.size w (w.alloc (.cells #[.pointer none, .int .i64 0] 26)) := (Below.refl _ _).alloc (Nat.le_refl _) _
  have L1 := Lib.hid (numsBytes_length a)
  have L2 := Lib.hid ha.len
  have L3 := Lib.hid hl.1
  go_enter Try.func4, Try.ntmps4
  go_wp2_with fail
  refine (put_ w.heap.size [] _ _ _ a _ (Wr.new w rfl) (ha.below hb0) e1 m1 (by simp; omega)).mono ?_
  rintro e w1 ⟨rfl, hw1, hg1⟩
  rw [List.nil_append] at hw1
  have hb1 : Below w.heap.size w w1 := hb0.trans (wr_base hg1 (Nat.le_refl _) (by simp))
  go_wp2_with fail
  refine (part_ w.heap.size _ _ _ _ l _ hw1 (hl.below hb1) e2 m2 (by rw [L1.out, ← L2.out]; omega)).mono ?_
  rintro e w2 ⟨rfl, hw2, hg2⟩
  have hb2 : Below w.heap.size w w2 := hb1.trans (wr_base hg2 (Nat.le_refl _) hw1.lt)
  have hX : (numsBytes a ++ partsBytes l).length ≤ 140737488351300 := by rw [List.length_append, L1.out, ← L2.out]; omega
  have G1 := Lib.hid (fun (k : Nat) (hk : k < a.length) => rGet_nums a (partsBytes l) k hk (ha.2 _ (List.getElem_mem hk)))
  have G2 := Lib.hid (fun (k : Nat) (hk : k < l.length) => rPart_parts (numsBytes a) l k hk (hp _ (List.getElem_mem hk)))
  have G3 := Lib.hid (show rEnd (numsBytes a ++ partsBytes l) ⟨(numsBytes a ++ partsBytes l).length, 0, 0⟩ = ⟨(numsBytes a ++ partsBytes l).length, 0, 0⟩ by simp [rEnd])
  have G4 := Lib.hid (show (numsBytes a ++ partsBytes l).length = 8 * n1 + (partsBytes l).length by rw [List.length_append, L1.out, ← L2.out])
  generalize hXe : numsBytes a ++ partsBytes l = X at *
  clear hXe
  go_wp2_with fail
  refine (bytes_ w.heap.size X _ hw2 (by omega)).mono ?_
  rintro e w3 ⟨rfl, hk3, hb3⟩
  have hB3 : Below w.heap.size w w3 := hb2.trans (hb3.mono hb2.size)
  have hs3 := bs_blk hk3
  clear hg1 hg2 hb1 hb2 hw1 hw2 hk3 hb3 hb0
  go_wp2_with fail
  refine (new_ _ _ _ X _ hs3 (by simp) (Nat.le_refl _) (by omega) hX).mono ?_
  rintro e w4 ⟨br, rfl, hbr, hr4, hb4⟩
  have hB4 : Below w.heap.size w w4 := hB3.trans (hb4.mono hB3.size)
  have hbr2 : w.heap.size ≤ br := Nat.le_trans hB3.size hbr
  clear hb4 hs3 hbr
  go_wp2_with fail
  go_loopw [21] (fun i wr => ∃ k : Nat, k ≤ n1 ∧ i = .int .i64 k ∧ Rs wr br X ⟨8 * k, 0, 0⟩ ∧ Below w.heap.size w wr) (fun i _ => n1 - (intOf i).toNat)
  case atStart => exact ⟨0, Nat.zero_le _, rfl, hr4, hB4⟩
  case round =>
    obtain ⟨k, hk, rfl, hrk, hBk⟩ := hrel
    clear hr4 hB4 hB3
    by_cases hlt : k < n1
    · obtain ⟨b, o, rfl, hkl, hcell0, hz⟩ := ha.at_ hlt
      have hcell : wr.cell? ⟨b, o + k, none⟩ = _ := (hBk.cell (cell_lt hcell0)).trans hcell0
      have t := G1.out k hkl
      have T := Lib.hid t
      clear t ha
      go_wp2_with (refine (get_ br X _ _ hrk (by omega)).mono ?_; rw [T.out]; rintro e w5 ⟨rfl, hr5, hg5⟩)
      have hB5 : Below w.heap.size w w5 := hBk.trans (wr_base hg5 hbr2 (Rr.lt hrk))
      go_roundw
      case rel => exact ⟨k + 1, by omega, by go_num, hr5, hB5⟩
      case measure => simp [intOf]; omega
    · have hkn : k = n1 := by omega
      subst hkn
      go_wp2_with fail
      have hr0 : Rs wr br X ⟨(numsBytes a).length + (partsBytes (l.take 0)).length, 0, 0⟩ := by rw [L1.out, ← L2.out]; exact hrk
      clear hrk
      obtain ⟨wo, rfl⟩ : ∃ wo : World, wo = wr := ⟨_, rfl⟩
      go_loopw [32] (fun i wr => ∃ j : Nat, j ≤ n2 ∧ i = .int .i64 j ∧ Rs wr br X ⟨(numsBytes a).length + (partsBytes (l.take j)).length, 0, 0⟩ ∧ Below w.heap.size w wr) (fun i _ => n2 - (intOf i).toNat)
      case atStart => exact ⟨0, Nat.zero_le _, rfl, hr0, hBk⟩
      case round =>
        obtain ⟨j, hj, rfl, hrj, hBj⟩ := hrel
        clear hr0 hBk
        by_cases hlt2 : j < n2
        · have hjl : j < l.length := by rw [← L3.out]; exact hlt2
          obtain ⟨b, o, Ap, np, cp, rfl, hcell0, hp1, hp2, hp3⟩ := hl.2 j hjl
          have hcell : wr.cell? ⟨b, o + j, none⟩ = _ := (hBj.cell (cell_lt hcell0)).trans hcell0
          have hcl := cell_lt hcell0
          have t := G2.out j hjl
          have T := Lib.hid t
          clear t hl
          go_wp2_with fail
          refine (rpart_ br X _ _ hrj (by omega)).mono ?_
          rw [T.out]
          rintro e w5 ⟨v5, rfl, hown5, hr5, hg5⟩
          have hB5 : Below w.heap.size w w5 := hBj.trans (wr_base hg5 hbr2 (Rr.lt hrj))
          obtain ⟨A5, c5, rfl, hc5, hm5, ha5⟩ := own_form hown5
          have hs5 := bs_own hown5
          have hps := hp3.below hB5
          have q : (l[j] == l[j]) = true := by simp
          clear hown5 hrj hg5 hm5 hc5
          go_wp2_with fail
          refine (same_ _ _ _ _ _ _ _ _ _ hs5 hps hs5.zero hps.zero).mono ?_
          rintro e w' ⟨rfl, rfl⟩
          rw [q]
          clear hs5 hps
          go_wp2
          go_roundw
          case rel => exact ⟨j + 1, by omega, by go_num, hr5, hB5⟩
          case measure => simp [intOf]; omega
        · have hjn : j = n2 := by omega
          subst hjn
          have hrE : Rs wr br X ⟨X.length, 0, 0⟩ := by
            rw [G4.out, L2.out, ← L1.out]
            rw [List.take_of_length_le (by rw [← L3.out]; omega)] at hrj
            exact hrj
          have t := G3.out
          have T := Lib.hid t
          clear t hrj hlt2
          go_wp2_with fail
          refine (end_ br X _ _ hrE).mono ?_
          rw [T.out]
          rintro e w5 ⟨rfl, hr5, hg5⟩
          have hB5 : Below w.heap.size w w5 := hBj.trans (wr_base hg5 hbr2 (Rr.lt hrE))
          go_wp2_with (refine (alive_ _).mono ?_; rintro e w8 ⟨rfl, hb8⟩)
          go_ret
          exact ⟨rfl, below_step hB5 hb8 (Nat.le_refl _)⟩

set_option maxRecDepth 100000 in
theorem packBack_lifted (os : Os) (started : os.Started) (H : Type) (enc : TypeId × Value → H) (F : Stop.Interp) :
    ReturnsInHanded {} Try.checked os 4 .any ((Rows.OpenSpec.upto Rows.packBackSpec).pre6 enc Try.prog Try.f4 Rows.packBackUptoRow.domain false) (((Rows.OpenSpec.upto Rows.packBackSpec).at F).post enc Try.prog Try.f4 false true false false) := by
  refine law_upto (C := Try.checked) (tb := 4) own_ started (by kernel_rfl) Try.func4
    (OpenSpec.witness (enc := enc) (C := Try.checked) (s := Rows.OpenSpec.upto Rows.packBackSpec) (k := Rows.uptoSmall) rfl false ⟨#[], #[.slice none 0 0, .slice none 0 0], []⟩ 8 (by kernel_rfl) (by kernel_rfl) (by kernel_rfl) (x := ([.nil, .nil], [], [])) (by kernel_rfl) rfl (by kernel_rfl))
    rfl rfl Try.underlying4 laidOut_ (by kernel_rfl) (fun ds h => by match ds, h with | [_, _], _ => rfl) ?_
  intro W base args ds p hval0 hA0 _ hsz0 hbulk
  have hval : ∀ (j : Nat) t v, Try.f4.params[j]? = some t → args[j]? = some v → Value.okWide Try.prog W .any base t v := hval0
  have hA : DataW.TrodAll enc Try.prog W 0 (fun _ => true) true Try.f4.params.toList args.toList ds p := hA0
  have hsz : (DataW.weightsEach Try.prog Try.f4.params.toList ds).all (· ≤ reachBytes) = true := hsz0
  clear hval0 hA0 hsz0
  rw [Try.params4] at hA hval hsz
  obtain ⟨v0, v1, d0, d1, p0, p1, rfl, rfl, rfl, h0, h1⟩ := trodAll_two hA
  have hB : Rows.uptoBulk d0 + Rows.uptoBulk d1 ≤ 1048576 := by simp only [Rows.uptoBulkAll] at hbulk; omega
  obtain ⟨A0, n0, c0, xs0, rfl, r0, b0⟩ := arg_slice ops_u64s Try.underlying22 (hval 0 _ v0 rfl rfl) h0 (weight_at hsz (j := 0) rfl rfl)
  obtain ⟨hb0, hn0, ha0, hc0⟩ := ns_shp r0
  obtain ⟨A1, n1, c1, xs1, rfl, r1, b1⟩ := arg_slice ops_bytess Try.underlying23 (hval 1 _ v1 rfl rfl) h1 (weight_at hsz (j := 1) rfl rfl)
  obtain ⟨hb1, hn1, ha1, hc1, hp1⟩ := bss_shp r1
  have hl1 := partsBytes_length xs1
  have hs1 := bulks_parts xs1
  have hs0 := bulks_nat .u64 18446744073709551616 xs0
  exact packBack_walk A0 A1 n0 c0 n1 c1 xs0 xs1 W hb0 hb1 hn0 hn1 (by omega) hc1 (by have := hb0.len; omega) (fun p hp => by have := len_le_sum xs1 p hp; omega)

/-- PackBack, where what it reads is of bulk at most 1048576: the statement as it was given. -/
theorem packBack_holds : Rows.PackBackUptoSaid :=
  OpenClaim.holds_of_cond 4 Try.f4 rfl rfl rfl rfl rfl rfl rfl ⟨rfl, rfl, rfl, rfl, rfl⟩ rfl rfl rfl rfl rfl (by kernel_rfl) Try.func4 (by kernel_rfl)
    (of_decide_eq_true (by kernel_rfl)) (by unfold Func.isWrapper; first | (rw [if_pos (by decide +kernel)]; kernel_rfl) | (rw [if_neg (by decide +kernel)]; exact ⟨rfl, rfl⟩))
    (fun os started H enc _ F => packBack_lifted os started H enc F)
end Go.Proofs.Ytimppkddpfhceaa

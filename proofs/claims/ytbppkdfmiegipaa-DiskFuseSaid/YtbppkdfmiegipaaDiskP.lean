/- Proves DiskFuse of layer 3 (disks), for every input, with no condition: with a fuse so many Writes and Flushes are done, and the next one finds the power off. -/
import Derived.Test.YtbppkdfmiegipaaDiskX
import Derived.Lib.MinMax
namespace Go.Proofs.Ytbppkdfmiegipaa
open Go.ChangeShapes Go.WideShapes Go.ChangeAt Go.RowKit Go.Maps

theorem step_fuse {s : DS} {F : Nat} (hf : s.fuse = (F : Int)) (ho : 0 < F → s.on = true) :
    (0 < F → s.step.on = true ∧ s.step.fuse = ((F - 1 : Nat) : Int)) ∧ (F = 0 → s.step.on = false ∧ s.step.fuse = 0) := by
  constructor
  · intro h
    have h1 : s.fuse ≠ 0 := by omega
    have h2 : 0 < s.fuse := by omega
    unfold DS.step
    rw [if_neg h1, if_pos ⟨ho h, h2⟩]
    exact ⟨ho h, by simp only; omega⟩
  · intro h
    have h1 : s.fuse = 0 := by omega
    unfold DS.step
    rw [if_pos h1]
    exact ⟨rfl, h1⟩
/-- A disk of four sectors whose fuse has come down to F. -/
def Fz (s : DS) (st i : Nat) : Prop := s.n = 4 ∧ s.fuse = ((st - i : Nat) : Int) ∧ (i ≤ st → s.on = true)
theorem flush_fz {s : DS} {st i : Nat} (h : Fz s st i) : Fz s.flush.2 st (i + 1) ∧ s.flush.1 = (if i < st then 0 else 8) ∧ s.flush.2.on = decide (i < st) := by
  obtain ⟨h1, h2, h3⟩ := h
  have hs := step_fuse h2 (fun h => h3 (by omega))
  unfold DS.flush
  by_cases hi : i < st
  · obtain ⟨a, b⟩ := hs.1 (by omega)
    rw [if_pos a, if_pos hi]
    exact ⟨⟨by simp only; rw [step_n, h1], by simp only; rw [b]; omega, fun _ => a⟩, rfl, by simp only; rw [a]; simp [hi]⟩
  · obtain ⟨a, b⟩ := hs.2 (by omega)
    rw [if_neg (by rw [a]; simp), if_neg hi]
    exact ⟨⟨by simp only; rw [step_n, h1], by simp only; rw [b]; omega, fun h => by omega⟩, rfl, by simp only; rw [a]; simp [hi]⟩
theorem write_fz {s : DS} {st i : Nat} (h : Fz s st i) (j : Int) (xs : List UInt8) (hj : 0 ≤ j ∧ j < 4) (hx : xs.length ≤ 64) : Fz (s.write j xs).2 st (i + 1) ∧ (s.write j xs).1 = (if i < st then 0 else 8) ∧ (s.write j xs).2.on = decide (i < st) := by
  obtain ⟨h1, h2, h3⟩ := h
  have hs := step_fuse h2 (fun h => h3 (by omega))
  unfold DS.write
  rw [if_neg (by
    have : s.has j := ⟨hj.1, by omega⟩
    rintro (h | h)
    · exact h this
    · omega)]
  by_cases hi : i < st
  · obtain ⟨a, b⟩ := hs.1 (by omega)
    rw [if_pos a, if_pos hi]
    exact ⟨⟨by simp only; rw [step_n, h1], by simp only; rw [b]; omega, fun _ => a⟩, rfl, by simp only; rw [a]; simp [hi]⟩
  · obtain ⟨a, b⟩ := hs.2 (by omega)
    rw [if_neg (by rw [a]; simp), if_neg hi]
    exact ⟨⟨by simp only; rw [step_n, h1], by simp only; rw [b]; omega, fun h => by omega⟩, rfl, by simp only; rw [a]; simp [hi]⟩

theorem and3 : ∀ i : Nat, i < 600 → bits BinOp.and IntKind.i64 (i : Int) 3 = ((i % 4 : Nat) : Int) := by decide +kernel

set_option maxRecDepth 100000 in
set_option maxHeartbeats 2000000 in
theorem diskFuse_walk (st : Nat) (B : Option Addr) (m d : Nat) (ks : List Bool) (w : World) (hst : st < 256) (hk : Bls w B m ks) (hB : B = none → m = 0 ∧ d = 0) (hmd : m ≤ d) (hd : d ≤ 140737488351232) :
    Calls Try.prog 5 #[.int .u8 (st : Int), .slice B m d] w fun e w' => e = .returned (.bool true) ∧ Below w.heap.size w w' := by
  go_enter Try.func5, Try.ntmps5
  go_wp2_with fail
  refine (new_ 4 w (by decide) (by decide)).mono ?_
  rintro e w1 ⟨g, rfl, hg, h1, hb1⟩
  go_wp2_with fail
  refine (alive_ _).mono ?_
  rintro e w2 ⟨rfl, hb2⟩
  have h2 := h1.below hb2
  have hB2 : Below w.heap.size w w2 := hb1.trans (hb2.mono hb1.size)
  clear h1 hb1 hb2
  go_wp2_with fail
  refine (arm_ g _ _ _ h2 (by omega)).mono ?_
  rintro e w3 ⟨rfl, h3, ht3⟩
  have hgl := h2.lt
  have hB3 : Below w.heap.size w w3 := hB2.trans (ht3.below (by omega) (by omega))
  have hf3 : Fz ((DS.fresh 4).arm st) st 0 := ⟨rfl, rfl, fun _ => rfl⟩
  clear h2 ht3 hB2 hgl
  generalize (DS.fresh 4).arm st = s3 at *
  obtain ⟨q, hq, hqm, hmn⟩ : ∃ q : Nat, min (m : Int) 600 = (q : Int) ∧ q ≤ m ∧ q ≤ 600 := by
    by_cases h : m ≤ 600
    · exact ⟨m, by omega, Nat.le_refl _, h⟩
    · exact ⟨600, by omega, by omega, Nat.le_refl _⟩
  have hqi : (q : Int) ≤ (d : Int) := by omega
  go_wp2_with fail
  clear hq
  go_loopw [34] (fun iv wr => ∃ (i : Nat) (s : DS), i ≤ q ∧ iv = .int .i64 (i : Int) ∧ Dk wr g s ∧ Fz s st i ∧ Below w.heap.size w wr) (fun iv _ => q - (intOf iv).toNat)
  case atStart => exact ⟨0, s3, Nat.zero_le _, rfl, h3, hf3, hB3⟩
  case round =>
    obtain ⟨i, s, hi, rfl, hs, hf, hb⟩ := hrel
    clear h3 hf3 hB3
    by_cases hlt : i < q
    · obtain ⟨b, o, rfl, hc0⟩ := hk.at_ (show i < m by omega)
      have hc : wr.cell? ⟨b, o + i, none⟩ = _ := (hb.cell (cell_lt hc0)).trans hc0
      have hgl := hs.lt
      have hil : (i : Int) < (q : Int) := by omega
      clear hc0 hk
      cases hfl : ks.getD i false with
      | true =>
        rw [hfl] at hc
        obtain ⟨f1, f2, f3⟩ := flush_fz hf
        by_cases his : i < st
        · have hst' : (i : Int) < (st : Int) := by omega
          rw [if_pos his] at f2; rw [decide_eq_true his] at f3
          have F2 := Lib.hid f2
          have F3 := Lib.hid f3
          clear hfl f2 f3 hf his
          go_wp2_with fail
          refine (flush_ g s _ hs).mono ?_
          rw [F2.out]
          rintro e w4 ⟨rfl, h4, ht4⟩
          have hB4 : Below w.heap.size w w4 := hb.trans (ht4.below (by omega) (by omega))
          generalize s.flush.2 = s4 at *
          clear hs ht4 hb hc
          go_wp2_with fail
          refine (on_ g s4 _ h4).mono ?_
          rw [F3.out]
          rintro e w' ⟨rfl, rfl⟩
          go_wp2
          go_roundw
          case rel => exact ⟨i + 1, s4, by omega, by go_num, h4, f1, hB4⟩
          case measure => simp [intOf]; omega
        · have hst' : (st : Int) ≤ (i : Int) := by omega
          rw [if_neg his] at f2; rw [decide_eq_false his] at f3
          have F2 := Lib.hid f2
          have F3 := Lib.hid f3
          clear hfl f2 f3 hf his
          go_wp2_with fail
          refine (flush_ g s _ hs).mono ?_
          rw [F2.out]
          rintro e w4 ⟨rfl, h4, ht4⟩
          have hB4 : Below w.heap.size w w4 := hb.trans (ht4.below (by omega) (by omega))
          generalize s.flush.2 = s4 at *
          clear hs ht4 hb hc
          go_wp2_with fail
          refine (on_ g s4 _ h4).mono ?_
          rw [F3.out]
          rintro e w' ⟨rfl, rfl⟩
          go_wp2
          go_roundw
          case rel => exact ⟨i + 1, s4, by omega, by go_num, h4, f1, hB4⟩
          case measure => simp [intOf]; omega
      | false =>
        rw [hfl] at hc
        obtain ⟨f1, f2, f3⟩ := write_fz hf ((i % 4 : Nat) : Int) [UInt8.ofNat i] (by omega) (by simp)
        have Hand := Lib.hid (and3 i (by omega))
        by_cases his : i < st
        · have hst' : (i : Int) < (st : Int) := by omega
          have Hbv := Lib.hid (show (bvs [UInt8.ofNat i]).toArray = #[.int .u8 (i : Int)] by simp [bvs, bv]; omega)
          rw [if_pos his] at f2; rw [decide_eq_true his] at f3
          have F2 := Lib.hid f2
          have F3 := Lib.hid f3
          clear hfl f2 f3 hf his
          go_wp2_with fail
          have hx := Bs.new wr [UInt8.ofNat i] 5 (0, 0)
          rw [Hbv.out] at hx
          rw [Hand.out]
          refine (write_ g s _ _ 1 1 [UInt8.ofNat i] _ (hs.alloc _) hx (fun h => by cases h) (Nat.le_refl _) (fun a ha _ => by cases ha; right; simp; omega)).mono ?_
          rw [F2.out]
          rintro e w4 ⟨rfl, h4, ht4⟩
          have hB4 : Below w.heap.size w w4 := (hb.alloc hb.size _).trans (ht4.below (by omega) (by simp; omega))
          generalize (s.write ((i % 4 : Nat) : Int) [UInt8.ofNat i]).2 = s4 at *
          clear hs ht4 hb hc
          go_wp2_with fail
          refine (on_ g s4 _ h4).mono ?_
          rw [F3.out]
          rintro e w' ⟨rfl, rfl⟩
          go_wp2
          go_roundw
          case rel => exact ⟨i + 1, s4, by omega, by go_num, h4, f1, hB4⟩
          case measure => simp [intOf]; omega
        · have hst' : (st : Int) ≤ (i : Int) := by omega
          have Hbv := Lib.hid (show (bvs [UInt8.ofNat i]).toArray = #[.int .u8 ((i : Int) % 256)] by simp [bvs, bv])
          rw [if_neg his] at f2; rw [decide_eq_false his] at f3
          have F2 := Lib.hid f2
          have F3 := Lib.hid f3
          clear hfl f2 f3 hf his
          go_wp2_with fail
          have hx := Bs.new wr [UInt8.ofNat i] 5 (0, 0)
          rw [Hbv.out] at hx
          rw [Hand.out]
          refine (write_ g s _ _ 1 1 [UInt8.ofNat i] _ (hs.alloc _) hx (fun h => by cases h) (Nat.le_refl _) (fun a ha _ => by cases ha; right; simp; omega)).mono ?_
          rw [F2.out]
          rintro e w4 ⟨rfl, h4, ht4⟩
          have hB4 : Below w.heap.size w w4 := (hb.alloc hb.size _).trans (ht4.below (by omega) (by simp; omega))
          generalize (s.write ((i % 4 : Nat) : Int) [UInt8.ofNat i]).2 = s4 at *
          clear hs ht4 hb hc
          go_wp2_with fail
          refine (on_ g s4 _ h4).mono ?_
          rw [F3.out]
          rintro e w' ⟨rfl, rfl⟩
          go_wp2
          go_roundw
          case rel => exact ⟨i + 1, s4, by omega, by go_num, h4, f1, hB4⟩
          case measure => simp [intOf]; omega
    · go_wp2
      go_ret
      exact ⟨rfl, hb⟩

theorem diskFuse_lifted (os : Os) (started : os.Started) (H : Type) (enc : TypeId × Value → H) :
    ReturnsInHanded {} Try.checked os 5 .any (Rows.diskFuseSpec.pre6 enc Try.prog Try.f5 Rows.diskFuseRow.domain false) (Rows.diskFuseSpec.post enc Try.prog Try.f5 false true false false) := by
  refine law_lifted (C := Try.checked) (tb := 4) own_ started (by kernel_rfl) Try.func5
    (ChangeSpec.witness6 (enc := enc) (C := Try.checked) false ⟨#[], #[.int .u8 0, .slice none 0 0], []⟩ 8 (by kernel_rfl) (by kernel_rfl) (by kernel_rfl) (by kernel_rfl))
    rfl rfl Try.underlying4 laidOut_ (by kernel_rfl) (fun ds h => by match ds, h with | [_, _], _ => rfl) ?_
  intro W base args ds p hval0 hA0 _ hsz0
  have hval : ∀ (j : Nat) t v, Try.f5.params[j]? = some t → args[j]? = some v → Value.okWide Try.prog W .any base t v := hval0
  have hA : DataW.TrodAll enc Try.prog W 0 (fun _ => true) true Try.f5.params.toList args.toList ds p := hA0
  have hsz : (DataW.weightsEach Try.prog Try.f5.params.toList ds).all (· ≤ reachBytes) = true := hsz0
  clear hval0 hA0 hsz0
  rw [Try.params5] at hA hval hsz
  obtain ⟨v0, v1, d0, d1, p0, p1, rfl, rfl, rfl, h0, h1⟩ := trodAll_two hA
  obtain ⟨k0, rfl, hz0⟩ := arg_nat _ Try.underlying5 (hval 0 _ v0 rfl rfl) h0 wf_u8
  obtain ⟨A1, n1, c1, xs1, rfl, r1, b1⟩ := arg_slice ops_bools Try.underlying28 (hval 1 _ v1 rfl rfl) h1 (weight_at hsz (j := 1) rfl rfl)
  exact diskFuse_walk k0 A1 n1 c1 xs1 W hz0 (bls_shp r1).1 (bls_shp r1).2.2.1 (bls_shp r1).2.1 (bls_shp r1).2.2.2

/-- DiskFuse, for every input: the statement as it was given. -/
theorem diskFuse_holds : Rows.DiskFuseSaid :=
  OpenClaim.holds_of_wide 5 Try.f5 rfl rfl rfl rfl rfl rfl rfl ⟨rfl, rfl, rfl, rfl, rfl⟩ rfl rfl rfl rfl rfl (by kernel_rfl) Try.func5 (by kernel_rfl)
    (of_decide_eq_true (by kernel_rfl)) (by unfold Func.isWrapper; first | (rw [if_pos (by decide +kernel)]; kernel_rfl) | (rw [if_neg (by decide +kernel)]; exact ⟨rfl, rfl⟩))
    (fun os started H enc _ => diskFuse_lifted os started H enc)
end Go.Proofs.Ytbppkdfmiegipaa

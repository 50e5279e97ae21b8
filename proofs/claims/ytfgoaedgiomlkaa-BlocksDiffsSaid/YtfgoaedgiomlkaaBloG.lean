/- Layer 8: Meet, Read. -/
import Derived.Test.YtfgoaedgiomlkaaBloF
set_option linter.all false
namespace Go.Proofs.Ytfgoaedgiomlkaa
open Go.RowKit
namespace Blo

section
variable (w : World)
set_option maxRecDepth 100000 in
set_option maxHeartbeats 1000000 in
theorem meet_ (n : Nat) (x y : BOp) (X Y : Option Addr) (m c p d : Nat) (hn : n ≤ 1024) (hx : x.Ok n) (hy : y.Ok n) (dx : Dat w x X m c) (dy : Dat w y Y p d) :
    Calls Try.prog 16 #[.agg #[.int .i64 x.kind, .int .i64 x.off, .int .i64 x.len, .slice X m c], .agg #[.int .i64 y.kind, .int .i64 y.off, .int .i64 y.len, .slice Y p d]] w fun e w' => e = .returned (.bool (meetB x y)) ∧ Below w.heap.size w w' := by
  have h1 := hx.low
  have h2 := hx.high
  have h3 := hx.some
  have h4 := hy.low
  have h5 := hy.high
  have h6 := hy.some
  obtain ⟨ka, hka⟩ := Int.eq_ofNat_of_zero_le h1
  obtain ⟨kb, hkb⟩ := Int.eq_ofNat_of_zero_le h4
  obtain ⟨qa, hqa⟩ := Int.eq_ofNat_of_zero_le (show 0 ≤ x.cnt by omega)
  obtain ⟨qb, hqb⟩ := Int.eq_ofNat_of_zero_le (show 0 ≤ y.cnt by omega)
  have HM := Lib.hid (show meetB x y = (decide (ka < kb + qb) && decide (kb < ka + qa)) by
    unfold meetB
    rw [hka, hkb, hqa, hqb, decide_eq_true (show (0 : Int) < (qa : Int) by omega), decide_eq_true (show (0 : Int) < (qb : Int) by omega), Bool.eq_iff_iff]
    simp
    omega)
  have Ha := Lib.hid (show x.from_ = (ka : Int) by rw [from_ok hx, hka])
  have Hb := Lib.hid (show y.from_ = (kb : Int) by rw [from_ok hy, hkb])
  have Hqa := Lib.hid hqa
  have Hqb := Lib.hid hqb
  have b1 : ka + qa ≤ 1024 := by omega
  have b2 : kb + qb ≤ 1024 := by omega
  have b3 : 0 < qa := by omega
  have b4 : 0 < qb := by omega
  clear h1 h2 h3 h4 h5 h6 hka hkb hqa hqb hx hy
  have hacx := Blk.new w 36 #[.int .i64 x.kind, .int .i64 x.off, .int .i64 x.len, .slice X m c] rfl
  have hbx : Below w.heap.size w (w.alloc (.cells #[.int .i64 x.kind, .int .i64 x.off, .int .i64 x.len, .slice X m c] 36)) := (Below.refl _ _).alloc (Nat.le_refl _) _
  have hs1 : (w.alloc (.cells #[.int .i64 x.kind, .int .i64 x.off, .int .i64 x.len, .slice X m c] 36)).heap.size = w.heap.size + 1 := by simp
  have hacy := Blk.new (w.alloc (.cells #[.int .i64 x.kind, .int .i64 x.off, .int .i64 x.len, .slice X m c] 36)) 36 #[.int .i64 y.kind, .int .i64 y.off, .int .i64 y.len, .slice Y p d] hs1.symm
  have hacx2 := hacx.alloc (.cells #[.int .i64 y.kind, .int .i64 y.off, .int .i64 y.len, .slice Y p d] 36)
  have hby : Below w.heap.size w ((w.alloc (.cells #[.int .i64 x.kind, .int .i64 x.off, .int .i64 x.len, .slice X m c] 36)).alloc (.cells #[.int .i64 y.kind, .int .i64 y.off, .int .i64 y.len, .slice Y p d] 36)) := hbx.alloc hbx.size _
  have dx2 := dx.below (hby)
  have dy2 := dy.below (hby)
  clear dx dy hbx hacx hs1
  go_enter Try.func16, Try.ntmps16
  go_wp2_with fail
  generalize ((w.alloc (.cells #[.int .i64 x.kind, .int .i64 x.off, .int .i64 x.len, .slice X m c] 36)).alloc (.cells #[.int .i64 y.kind, .int .i64 y.off, .int .i64 y.len, .slice Y p d] 36)) = w1 at *
  refine (range_at _ x X m c dx2 ka qa Ha.out Hqa.out).mono ?_
  rintro e w2 ⟨rfl, hb2⟩
  have hacy2 := hacy.keep hb2
  have d0 := hacy2.cell (j := 0) (u := .int .i64 y.kind) rfl
  have d1 := hacy2.cell (j := 1) (u := .int .i64 y.off) rfl
  have d2 := hacy2.cell (j := 2) (u := .int .i64 y.len) rfl
  have d3 := hacy2.cell (j := 3) (u := .slice Y p d) rfl
  go_wp2_with fail
  refine (range_at _ y Y p d (dy2.below hb2) kb qb Hb.out Hqb.out).mono ?_
  rintro e w3 ⟨rfl, hb3⟩
  have hB := below_step (below_step hby hb2 (Nat.le_refl _)) hb3 (Nat.le_refl _)
  have t1 : (0 : Int) < (qa : Int) := by omega
  have t2 : (0 : Int) < (qb : Int) := by omega
  clear d0 d1 d2 d3 hacy hacx2 hacy2 dx2 dy2 hby hb2 hb3
  by_cases hlt : (kb : Int) < (ka : Int)
  · have t3 : IntKind.u64.wrap ((ka : Int) - (kb : Int)) = (ka : Int) - (kb : Int) := by rw [IntKind.wrap_u64]; omega
    by_cases h9 : (ka : Int) - (kb : Int) < (qb : Int)
    · go_wp2
      go_ret
      rw [HM.out]
      exact ⟨by simp [t3]; first | omega | (rw [Bool.eq_iff_iff]; simp only [Bool.and_eq_true, decide_eq_true_eq]; omega), hB⟩
    · go_wp2
      go_ret
      rw [HM.out]
      exact ⟨by simp [t3]; first | omega | (rw [Bool.eq_iff_iff]; simp only [Bool.and_eq_true, decide_eq_true_eq]; omega), hB⟩
  · have t3 : IntKind.u64.wrap ((kb : Int) - (ka : Int)) = (kb : Int) - (ka : Int) := by rw [IntKind.wrap_u64]; omega
    by_cases h9 : (kb : Int) - (ka : Int) < (qa : Int)
    · go_wp2
      go_ret
      rw [HM.out]
      exact ⟨by simp [t3]; first | omega | (rw [Bool.eq_iff_iff]; simp only [Bool.and_eq_true, decide_eq_true_eq]; omega), hB⟩
    · go_wp2
      go_ret
      rw [HM.out]
      exact ⟨by simp [t3]; first | omega | (rw [Bool.eq_iff_iff]; simp only [Bool.and_eq_true, decide_eq_true_eq]; omega), hB⟩
set_option maxRecDepth 100000 in
set_option maxHeartbeats 1000000 in
/-- All of a volume, read. -/
theorem read_ (A : Option Addr) (n c : Nat) (v : List Nat) (h : Ns w A n v) (hA : A = none → n = 0 ∧ c = 0) (hnc : n ≤ c) (hc : c ≤ 9223372036854775807) :
    Calls Try.prog 18 #[.slice A n c, .int .i64 0, .int .i64 (n : Int)] w fun e w' => AnsN w w' e (if manyB n then 0 else 6) (if manyB n then v else []) := by
  have hni : I64 (n : Int) := by unfold I64; omega
  cases hm : manyB n with
  | false =>
    go_enter Try.func18, Try.ntmps18
    go_wp2_with fail
    refine (volume_ _ n hni).mono ?_
    rw [hm]
    rintro e w2 ⟨rfl, rfl⟩
    go_wp2
    go_ret2
    exact ⟨none, 0, 0, rfl, GotN.no _ _, Below.refl _ _⟩
  | true =>
    have hn := many_nat hm
    have Hlow := Lib.hid h.2
    have hwi : withinB (n : Int) 0 (n : Int) = true := by simp [withinB]
    go_enter Try.func18, Try.ntmps18
    go_wp2_with fail
    refine (volume_ _ n hni).mono ?_
    rw [hm]
    rintro e w2 ⟨rfl, rfl⟩
    go_wp2_with fail
    refine (within_ _ n 0 n (by omega) (by unfold I64; omega) hni).mono ?_
    rw [hwi]
    rintro e w2 ⟨rfl, rfl⟩
    have t1 : (n : Int) ≤ (c : Int) := by omega
    go_wp2_with fail
    refine (clone_ _ A n c v h hA hnc hc (by omega)).mono ?_
    rintro e w3 ⟨V, rfl, hO, hb3⟩
    obtain ⟨A', c', rfl, -, -, -⟩ := own_form hO
    go_wp2
    go_ret2
    exact ⟨A', n, c', rfl, ⟨hO, Hlow.out⟩, hb3⟩
end
end Blo
end Go.Proofs.Ytfgoaedgiomlkaa

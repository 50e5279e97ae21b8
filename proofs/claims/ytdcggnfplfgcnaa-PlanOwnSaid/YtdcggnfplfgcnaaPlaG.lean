/- Layer 14: the document's Ops and Reads. -/
import Derived.Test.YtdcggnfplfgcnaaPlaF
set_option linter.all false
namespace Go.Proofs.Ytdcggnfplfgcnaa
open Go.RowKit
namespace Pla
open Blo (I64 Dat Sml FitB dat_own)
open Sma (Pc Mp Mr mv runB run_mem)

theorem dat_rd (w : World) {a n : Int} (ha : I64 a) (hn : I64 n) : Dat w (rdO a n) none 0 0 := ⟨Ns.nil, fun _ => ⟨rfl, rfl⟩, Nat.le_refl _, by omega, by omega, ⟨by unfold I64 rdO; simp, ha, hn⟩⟩
theorem cnt_data {o : BOp} : o.kind = 1 → o.cnt = (o.data.length : Int) := cnt_write
section
variable (w : World)
set_option maxRecDepth 100000 in
set_option maxHeartbeats 2000000 in
theorem rops_ (m : Mp) (A : Option Addr) (k c : Nat) (h : Mr w m A k c) (o : BOp) (X : Option Addr) (mm cc : Nat) (hd : Dat w o X mm cc) :
    Calls Try.prog 12 #[mv m A k c, oa o (.slice X mm cc)] w fun e w' => AnsP w w' e 85 (opsE m o) (opsL m o) := by
  have hb1 := (Below.refl w.heap.size w).alloc (Nat.le_refl _) (rmo m A k c)
  have hb2 : Below w.heap.size w ((w.alloc (rmo m A k c)).alloc (oo o (.slice X mm cc))) := hb1.alloc (by simp) _
  have hm2 := (h.alloc (rmo m A k c)).alloc (oo o (.slice X mm cc))
  have hd2 := dat_alloc (dat_alloc hd (rmo m A k c)) (oo o (.slice X mm cc))
  have k1 : Blk ((w.alloc (rmo m A k c)).alloc (oo o (.slice X mm cc))) w.heap.size 24 #[.int .i64 m.v, .int .i64 m.n, .slice A k c] := (Blk.new w _ _ rfl).alloc _
  have k2 : Blk ((w.alloc (rmo m A k c)).alloc (oo o (.slice X mm cc))) (w.heap.size + 1) 27 #[.int .i64 o.kind, .int .i64 o.off, .int .i64 o.len, .slice X mm cc] := Blk.new _ _ _ (by simp)
  have hlow := hd.ns.2
  have hmn := smi h.n
  obtain ⟨m0, m1, m2, -, -, -⟩ := Sma.cells3 k1
  clear h hd hb1
  go_enter Try.func12, Try.ntmps12
  go_wp2_with fail
  refine (Sma.rright_ _ m A k c hm2).mono ?_
  clear m0 m1 m2
  generalize ((w.alloc (rmo m A k c)).alloc (oo o (.slice X mm cc))) = w1 at *
  cases hr : m.right with
  | false =>
    have HE := Lib.hid (opsE_arg (o := o) hr)
    have HQ := Lib.hid (opsL_no (o := o) (.inl hr))
    rintro e w2 ⟨rfl, hb3⟩
    go_wp2
    go_ret2
    rw [HE.out, HQ.out]
    exact ⟨none, 0, 0, [], rfl, GotP.nil _ _ _, rfl, below_step hb2 hb3 (Nat.le_refl _)⟩
  | true =>
    rintro e w2 ⟨rfl, hb3⟩
    have hB3 := below_step hb2 hb3 (Nat.le_refl _)
    have k13 := k1.keep hb3
    have k23 := k2.keep hb3
    have hd3 := hd2.below hb3
    have hm3 := hm2.below hb3
    obtain ⟨m0, m1, m2, -, -, -⟩ := Sma.cells3 k13
    obtain ⟨n0, n1, n2, n3, -, -, -, -⟩ := cells4 k23
    clear k1 k2 hd2 hm2 hb3
    go_wp2_with fail
    refine (Blo.rright1_ _ m.n o X mm cc hmn hd3).mono ?_
    cases ho : o.right m.n with
    | false =>
      have HE := Lib.hid (opsE_none hr ho)
      have HQ := Lib.hid (opsL_no (.inr ho))
      rintro e w3 ⟨rfl, hb4⟩
      go_wp2
      go_ret2
      rw [HE.out, HQ.out]
      exact ⟨none, 0, 0, [], rfl, GotP.nil _ _ _, rfl, below_step hB3 hb4 (Nat.le_refl _)⟩
    | true =>
      have HE := Lib.hid (opsE_ok hr ho)
      have HQ := Lib.hid (opsL_ok hr ho)
      obtain ⟨hok, hn0, hn1⟩ := ok_of_right ho
      have Hsm := Lib.hid (fun q hq => ops_sml hr ho hlow (q := q) hq)
      rintro e w3 ⟨rfl, hb4⟩
      have hB4 := below_step hB3 hb4 (Nat.le_refl _)
      have k14 := k13.keep hb4
      have k24 := k23.keep hb4
      have hd4 := hd3.below hb4
      have hm4 := hm3.below hb4
      clear m0 m1 m2 n0 n1 n2 n3 k13 k23 hd3 hm3 hb4 ho
      obtain ⟨n0, n1, n2, n3, -, -, -, -⟩ := cells4 k24
      have hrg := Blo.rrange_ w3 o X mm cc hd4
      rw [from_ok hok] at hrg
      go_wp2_with fail
      refine hrg.mono ?_
      rintro e w4 ⟨rfl, hb5⟩
      have hB5 := below_step hB4 hb5 (Nat.le_refl _)
      clear hrg n0 n1 n2 n3
      obtain ⟨m0, m1, m2, -, -, -⟩ := Sma.cells3 (k14.keep hb5)
      obtain ⟨n0, n1, n2, n3, -, -, -, -⟩ := cells4 (k24.keep hb5)
      have hlo := hok.low
      have hhi := hok.high
      have hso := hok.some
      have hd5 := hd4.below hb5
      have hm5 := hm4.below hb5
      clear k14 k24 hd4 hm4 hb5
      go_wp2_with fail
      refine (rparts_ _ m A k c hm5 hr o X mm cc hd5 o.cnt cnt_data hlo hso (by omega)).mono ?_
      rintro e w5 ⟨A', n', c', L, rfl, hPl, hL, hb6⟩
      have HL := Lib.hid hL
      clear hL
      go_wp2
      go_ret2
      rw [HE.out, HQ.out]
      exact ⟨A', n', c', L, rfl, ⟨hPl.mono hB5.size, sml_of_map HL.out Hsm.out⟩, HL.out, below_step hB5 hb6 (Nat.le_refl _)⟩
set_option maxRecDepth 100000 in
set_option maxHeartbeats 2000000 in
theorem rreads_ (m : Mp) (A : Option Addr) (k c : Nat) (h : Mr w m A k c) (a n : Int) (ha : I64 a) (hn : I64 n) :
    Calls Try.prog 14 #[mv m A k c, .int .i64 a, .int .i64 n] w fun e w' => AnsP w w' e 85 (readsE m a n) (readsL m a n) := by
  have hb1 := (Below.refl w.heap.size w).alloc (Nat.le_refl _) (rmo m A k c)
  have hm1 := h.alloc (rmo m A k c)
  have k1 : Blk (w.alloc (rmo m A k c)) w.heap.size 24 #[.int .i64 m.v, .int .i64 m.n, .slice A k c] := Blk.new w _ _ rfl
  have hmn := smi h.n
  obtain ⟨m0, m1, m2, -, -, -⟩ := Sma.cells3 k1
  clear h
  go_enter Try.func14, Try.ntmps14
  go_wp2_with fail
  refine (Sma.rright_ _ m A k c hm1).mono ?_
  clear m0 m1 m2
  generalize (w.alloc (rmo m A k c)) = w1 at *
  cases hr : m.right with
  | false =>
    have HE := Lib.hid (opsE_arg (o := trO a n) hr)
    have HQ := Lib.hid (readsL_no (a := a) (n := n) (.inl hr))
    rintro e w2 ⟨rfl, hb3⟩
    go_wp2
    go_ret2
    rw [show readsE m a n = opsE m (trO a n) from rfl, HE.out, HQ.out]
    exact ⟨none, 0, 0, [], rfl, GotP.nil _ _ _, rfl, below_step hb1 hb3 (Nat.le_refl _)⟩
  | true =>
    rintro e w2 ⟨rfl, hb3⟩
    have hB3 := below_step hb1 hb3 (Nat.le_refl _)
    have k13 := k1.keep hb3
    have hm3 := hm1.below hb3
    obtain ⟨m0, m1, m2, -, -, -⟩ := Sma.cells3 k13
    clear k1 hm1 hb3
    go_wp2_with fail
    refine (Blo.rright1_ _ m.n (trO a n) none 0 0 hmn (dat_tr _ ha hn)).mono ?_
    cases ho : (trO a n).right m.n with
    | false =>
      have HE := Lib.hid (opsE_none hr ho)
      have HQ := Lib.hid (readsL_no (.inr ho))
      rintro e w3 ⟨rfl, hb4⟩
      go_wp2
      go_ret2
      rw [show readsE m a n = opsE m (trO a n) from rfl, HE.out, HQ.out]
      exact ⟨none, 0, 0, [], rfl, GotP.nil _ _ _, rfl, below_step hB3 hb4 (Nat.le_refl _)⟩
    | true =>
      have HE := Lib.hid (opsE_ok hr ho)
      have HQ := Lib.hid (readsL_ok hr ho)
      obtain ⟨h0, h1, h2⟩ := tr_ok ho
      obtain ⟨-, -, hn1⟩ := ok_of_right ho
      have Hsm := Lib.hid (fun q hq => reads_sml hr ho (q := q) hq)
      rintro e w3 ⟨rfl, hb4⟩
      have hB4 := below_step hB3 hb4 (Nat.le_refl _)
      have hm4 := hm3.below hb4
      clear m0 m1 m2
      obtain ⟨m0, m1, m2, -, -, -⟩ := Sma.cells3 (k13.keep hb4)
      clear k13 hm3 hb4 ho
      go_wp2_with fail
      refine (rparts_ _ m A k c hm4 hr (rdO a n) none 0 0 (dat_rd _ ha hn) n (fun h => by cases h) h0 h1 (show a + n ≤ 1024 by omega)).mono ?_
      rintro e w5 ⟨A', n', c', L, rfl, hPl, hL, hb6⟩
      have HL := Lib.hid hL
      clear hL
      go_wp2
      go_ret2
      rw [show readsE m a n = opsE m (trO a n) from rfl, HE.out, HQ.out]
      exact ⟨A', n', c', L, rfl, ⟨hPl.mono hB4.size, sml_of_map HL.out Hsm.out⟩, HL.out, below_step hB4 hb6 (Nat.le_refl _)⟩
end
end Pla
end Go.Proofs.Ytdcggnfplfgcnaa

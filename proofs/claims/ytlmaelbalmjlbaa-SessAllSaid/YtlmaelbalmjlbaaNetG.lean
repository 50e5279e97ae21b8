/- Layer 15: the document's Reader: its calls said of the bytes, the place and the first fault. -/
import Derived.Test.YtlmaelbalmjlbaaNetC
set_option linter.all false
namespace Go.Proofs.Ytlmaelbalmjlbaa
open Go.RowKit
namespace Net
/-- The document's Reader at block br. -/
def Rf (w : World) (br : Nat) (xs : List UInt8) (p e f : Nat) : Prop :=
  ∃ A n c, Blk w br 103 #[.slice A n c, .int .i64 (p : Int), .int .i64 (e : Int), .int .i64 (f : Int)] ∧ Bs w A n xs ∧ (∀ a, A = some a → a.block < br) ∧ (A = none → n = 0 ∧ c = 0) ∧ n ≤ c ∧ c ≤ 9223372036854775807 ∧ p ≤ n ∧ (e = 0 → f = 0)
theorem Rf.below {w w' : World} {br : Nat} {xs : List UInt8} {p e f : Nat} (h : Rf w br xs p e f) (hb : Below w.heap.size w w') : Rf w' br xs p e f := by
  obtain ⟨A, n, c, h1, h2, h3⟩ := h
  exact ⟨A, n, c, h1.keep hb, h2.below hb, h3⟩
theorem Rf.drewN {w : World} {br : Nat} {xs : List UInt8} {p e f : Nat} (h : Rf w br xs p e f) (k : Nat) : Rf (w.drewN k) br xs p e f := h
theorem Rf.lt {w : World} {br : Nat} {xs : List UInt8} {p e f : Nat} (h : Rf w br xs p e f) : br < w.heap.size := by obtain ⟨_, _, _, h, _⟩ := h; exact h.lt
theorem Rf.none_f {w : World} {br : Nat} {xs : List UInt8} {p e f : Nat} (h : Rf w br xs p e f) (he : e = 0) : f = 0 := by obtain ⟨_, _, _, _, _, _, _, _, _, _, h7⟩ := h; exact h7 he
theorem Rf.cells {w : World} {br : Nat} {xs : List UInt8} {p e f : Nat} (h : Rf w br xs p e f) :
    w.cell? ⟨br, 1, none⟩ = some (.int .i64 (p : Int)) ∧ w.cell? ⟨br, 2, none⟩ = some (.int .i64 (e : Int)) ∧ w.cell? ⟨br, 3, none⟩ = some (.int .i64 (f : Int)) ∧ w.frozen? ⟨br, 1, none⟩ = false ∧ w.frozen? ⟨br, 2, none⟩ = false ∧ w.frozen? ⟨br, 3, none⟩ = false := by
  obtain ⟨A, n, c, hb, _⟩ := h
  exact ⟨hb.cell rfl, hb.cell rfl, hb.cell rfl, hb.free _, hb.free _, hb.free _⟩
theorem Rf.fault {w : World} {br : Nat} {xs : List UInt8} {p : Nat} (h : Rf w br xs p 0 0) (e f : Nat) (he : e ≠ 0) : Rf ((w.setCell ⟨br, 2, none⟩ (.int .i64 (e : Int))).setCell ⟨br, 3, none⟩ (.int .i64 (f : Int))) br xs p e f := by
  obtain ⟨A, n, c, hb, hs, hne, h3, h4, h5, h6, h7⟩ := h
  have g := (grown_setCell w ⟨br, 2, none⟩ (.int .i64 (e : Int))).trans (grown_setCell _ ⟨br, 3, none⟩ (.int .i64 (f : Int)))
  exact ⟨A, n, c, by simpa using (hb.setCell 2 (.int .i64 (e : Int))).setCell 3 (.int .i64 (f : Int)), hs.grown g (fun a ha => by intro e; injection e with e; have := hne a ha; simp only at e; omega), hne, h3, h4, h5, h6, fun e => absurd e he⟩
theorem Rf.go {w : World} {br : Nat} {xs : List UInt8} {p e f : Nat} (h : Rf w br xs p e f) (q : Nat) (hq : q ≤ xs.length) : Rf (w.setCell ⟨br, 1, none⟩ (.int .i64 (q : Int))) br xs q e f := by
  obtain ⟨A, n, c, hb, hs, hne, h3, h4, h5, h6, h7⟩ := h
  exact ⟨A, n, c, by simpa using hb.setCell 1 (.int .i64 (q : Int)), hs.grown (grown_setCell w ⟨br, 1, none⟩ (.int .i64 (q : Int))) (fun a ha => by intro e; injection e with e; have := hne a ha; simp only at e; omega), hne, h3, h4, h5, by rw [hs.len]; exact hq, h7⟩
def Rfs (w : World) (br : Nat) (xs : List UInt8) (s : RS) : Prop := Rf w br xs s.p s.e s.f
set_option maxRecDepth 100000 in
set_option maxHeartbeats 400000 in
theorem fails_new (br : Nat) (xs : List UInt8) (p : Nat) (w : World) (h : Rf w br xs p 0 0) (e f : Nat) (he : e ≠ 0) :
    Calls Try.prog 57 #[.pointer (some ⟨br, 0, none⟩), .int .i64 (e : Int), .int .i64 (f : Int)] w fun r w' => r = .returned (.tuple #[]) ∧ Rf w' br xs p e f ∧ w.grownBy w' (some br) := by
  obtain ⟨c1, c2, c3, f1, f2, f3⟩ := h.cells
  have hr := h.fault e f he
  have g := (grown_setCell w ⟨br, 2, none⟩ (.int .i64 (e : Int))).trans (grown_setCell _ ⟨br, 3, none⟩ (.int .i64 (f : Int)))
  clear h
  go_enter Try.func57, Try.ntmps57
  go_wp2
  go_end0
  exact ⟨rfl, hr, g⟩
set_option maxRecDepth 100000 in
set_option maxHeartbeats 400000 in
theorem fails_had (br : Nat) (xs : List UInt8) (p e f : Nat) (w : World) (h : Rf w br xs p e f) (he : e ≠ 0) (x y : Int) :
    Calls Try.prog 57 #[.pointer (some ⟨br, 0, none⟩), .int .i64 x, .int .i64 y] w fun r w' => r = .returned (.tuple #[]) ∧ w = w' := by
  obtain ⟨c1, c2, c3, f1, f2, f3⟩ := h.cells
  have t : ((e : Int) == 0) = false := by simpa using he
  clear h
  go_enter Try.func57, Try.ntmps57
  go_wp2
  go_end0
  exact ⟨rfl, rfl⟩
set_option maxRecDepth 100000 in
set_option maxHeartbeats 400000 in
theorem peek_had (br : Nat) (xs : List UInt8) (p e f : Nat) (w : World) (h : Rf w br xs p e f) (he : e ≠ 0) :
    Calls Try.prog 56 #[.pointer (some ⟨br, 0, none⟩)] w fun r w' => r = .returned (.int .u64 0) ∧ w = w' := by
  obtain ⟨c1, c2, c3, f1, f2, f3⟩ := h.cells
  have t : ((e : Int) == 0) = false := by simpa using he
  have t2 : ((e : Int) != 0) = true := by simpa using he
  clear h
  go_enter Try.func56, Try.ntmps56
  go_wp2_with fail
  go_ret
  exact ⟨rfl, rfl⟩
set_option maxRecDepth 100000 in
set_option maxHeartbeats 400000 in
theorem peek_end (br : Nat) (xs : List UInt8) (p : Nat) (w : World) (h : Rf w br xs p 0 0) (hp : xs.length < p + 8) :
    Calls Try.prog 56 #[.pointer (some ⟨br, 0, none⟩)] w fun r w' => r = .returned (.int .u64 0) ∧ Rf w' br xs p 3 xs.length ∧ w.grownBy w' (some br) := by
  obtain ⟨c1, c2, c3, f1, f2, f3⟩ := h.cells
  have h0 := h
  obtain ⟨A, n, c, hb, hs, hne, h3, h4, h5, h6, h7⟩ := h0
  have hl := hs.len
  have c0 := hb.cell (j := 0) (u := .slice A n c) rfl
  have i0 : (p : Int) ≤ (n : Int) := by omega
  have i1 : (0 : Int) ≤ (p : Int) := by omega
  have i2 : (n : Int) ≤ 9223372036854775807 := by omega
  have t0 : (n : Int) - p < 8 := by omega
  have Hl := Lib.hid hl
  clear hb hs hne h3 h7 hl
  go_enter Try.func56, Try.ntmps56
  go_wp2_with fail
  go_quiet (fail)
  go_wp2_with (first
    | (go_at_call 57; refine (fails_new br xs p _ (h.drewN _) 3 n (by decide)).mono ?_; rintro r w' ⟨rfl, hr, hg⟩))
  go_ret
  rw [Hl.out] at hr
  exact ⟨rfl, hr, grown_of_drewN hg⟩
theorem or_low (a c : Nat) (ha : a < 72057594037927936) (hc : c < 256) : bits .or .u64 (IntKind.u64.wrap ((a : Int) * 256)) (c : Int) = ((c + 256 * a : Nat) : Int) := by
  have hw : IntKind.u64.wrap ((a : Int) * 256) = ((a * 256 : Nat) : Int) := by
    rw [IntKind.wrap_u64]
    omega
  rw [hw, bits_or_u64_nat (a * 256) c (by omega) (by omega)]
  have h2 := Nat.shiftLeft_add_eq_or_of_lt (b := c) (i := 8) (by omega) a
  rw [Nat.shiftLeft_eq] at h2
  rw [show (256 : Nat) = 2 ^ 8 from rfl, ← h2]
  omega
set_option maxRecDepth 100000 in
set_option maxHeartbeats 1000000 in
theorem peek_ok (br : Nat) (xs : List UInt8) (p : Nat) (w : World) (h : Rf w br xs p 0 0) (hp : p + 8 ≤ xs.length) :
    Calls Try.prog 56 #[.pointer (some ⟨br, 0, none⟩)] w fun r w' => r = .returned (.int .u64 (numAt (xs.drop p) : Nat)) ∧ ∃ k, w' = w.drewN k := by
  obtain ⟨c1, c2, c3, f1, f2, f3⟩ := h.cells
  have h0 := h
  obtain ⟨A, n, c, hb, hs, hne, h3, h4, h5, h6, h7⟩ := h0
  have hl := hs.len
  have c0 := hb.cell (j := 0) (u := .slice A n c) rfl
  have i0 : (p : Int) ≤ (n : Int) := by omega
  have i1 : (0 : Int) ≤ (p : Int) := by omega
  have i2 : (n : Int) ≤ 9223372036854775807 := by omega
  have t0 : ¬ (n : Int) - p < 8 := by omega
  have Hl := Lib.hid hl
  have hpn : p + 8 ≤ n := by omega
  clear hb hne h3 h7 hl
  go_enter Try.func56, Try.ntmps56
  go_wp2_with fail
  go_quiet (fail)
  go_wp2
  go_loopw [3, 4] (fun q i wr => ∃ j m : Nat, j ≤ 8 ∧ i = .int .i64 ((j : Int) - 1) ∧ q = .int .u64 (leNum ((xs.drop (p + j)).take (8 - j)) : Nat) ∧ wr = w.drewN m) (fun _ i _ => (intOf i + 1).toNat)
  case atStart => exact ⟨8, _, by omega, rfl, by simp [leNum], rfl⟩
  case round =>
    obtain ⟨j, m, hj, rfl, rfl, rfl⟩ := hrel
    cases j with
    | zero =>
      have HN := Lib.hid (show leNum ((xs.drop (p + 0)).take (8 - 0)) = numAt (xs.drop p) from rfl)
      rw [HN.out]
      go_wp2
      go_ret
      exact ⟨rfl, m, rfl⟩
    | succ j =>
      obtain ⟨b, o, rfl, hx, hc⟩ := hs.at_ (k := p + j) (by omega)
      have hl2 := leNum_lt ((xs.drop (p + (j + 1))).take (8 - (j + 1)))
      have hbt := xs[p + j].toNat_lt
      have hlen : ((xs.drop (p + (j + 1))).take (8 - (j + 1))).length = 7 - j := by rw [List.length_take, List.length_drop]; omega
      rw [hlen] at hl2
      have h7 : 256 ^ (7 - j) ≤ 256 ^ 7 := Nat.pow_le_pow_right (by omega) (by omega)
      have e7 : 256 ^ 7 = 72057594037927936 := by decide
      rw [e7] at h7
      have q0 : ((j + 1 : Nat) : Int) - 1 = (j : Int) := by omega
      have s1 : IntKind.i64.wrap ((p : Int) + (j : Int)) = (p : Int) + (j : Int) := IntWalk.i64_in _ (by omega)
      have s2 : (0 : Int) ≤ (p : Int) + (j : Int) := by omega
      have s3 : ((p : Int) + (j : Int)).toNat = p + j := by omega
      have s5 : (p : Int) + (j : Int) < (n : Int) := by omega
      have s6 : (0 : Int) ≤ (j : Int) := by omega
      rw [q0]
      clear hs q0
      have H1 := Lib.hid (or_low (leNum ((xs.drop (p + (j + 1))).take (8 - (j + 1)))) xs[p + j].toNat (by omega) hbt)
      have H2 := Lib.hid (show leNum ((xs.drop (p + j)).take (8 - j)) = xs[p + j].toNat + 256 * leNum ((xs.drop (p + (j + 1))).take (8 - (j + 1))) by
        rw [List.drop_eq_getElem_cons hx, show 8 - j = (8 - (j + 1)) + 1 by omega, List.take_succ_cons, leNum]
        rfl)
      clear hlen hl2 h7 e7
      generalize leNum ((xs.drop (p + (j + 1))).take (8 - (j + 1))) = q at *
      go_wp2_with fail
      go_quiet (fail)
      rw [H1.out]
      go_wp2
      go_roundw
      case rel => exact ⟨j, _, by omega, rfl, by rw [H2.out], rfl⟩
      case measure => simp [intOf]
end Net
end Go.Proofs.Ytlmaelbalmjlbaa

/- Walks of package pack's Reader: each call said of the bytes, the place and the first fault. -/
import Derived.Test.YtallbhdfbkkjkaaOwn
import Derived.Test.YtallbhdfbkkjkaaPackM
import Derived.Test.YtallbhdfbkkjkaaClone
import Derived.Deep.RegionHeld3
import Derived.StillTailTactics
import Derived.Deep.QuietTactic
import Derived.Laws.Bits64b
set_option linter.all false
namespace Go.Proofs.Ytallbhdfbkkjkaa
open Go.RowKit

/-- A Reader at block br: its bytes, the place, the first fault (0 and 0: none). -/
def Rr (w : World) (br : Nat) (xs : List UInt8) (p e f : Nat) : Prop :=
  ∃ A n c, Blk w br 112 #[.slice A n c, .int .i64 (p : Int), .int .i64 (e : Int), .int .i64 (f : Int)] ∧ Bs w A n xs ∧ (∀ a, A = some a → a.block < br) ∧ (A = none → c = 0) ∧ n ≤ c ∧ c ≤ 9223372036854775807 ∧ p ≤ n ∧ (e = 0 → f = 0)
theorem Rr.below {w w' : World} {br : Nat} {xs : List UInt8} {p e f : Nat} (h : Rr w br xs p e f) (hb : Below w.heap.size w w') : Rr w' br xs p e f := by
  obtain ⟨A, n, c, h1, h2, h3⟩ := h
  exact ⟨A, n, c, h1.keep hb, h2.below hb, h3⟩
theorem Rr.drewN {w : World} {br : Nat} {xs : List UInt8} {p e f : Nat} (h : Rr w br xs p e f) (k : Nat) : Rr (w.drewN k) br xs p e f := h
theorem Rr.lt {w : World} {br : Nat} {xs : List UInt8} {p e f : Nat} (h : Rr w br xs p e f) : br < w.heap.size := by obtain ⟨_, _, _, h, _⟩ := h; exact h.lt

set_option maxRecDepth 100000 in
set_option maxHeartbeats 400000 in
theorem left_ (br : Nat) (xs : List UInt8) (p e f : Nat) (w : World) (h : Rr w br xs p e f) :
    Calls Try.prog 60 #[.pointer (some ⟨br, 0, none⟩)] w fun r w' => r = .returned (.int .i64 ((xs.length : Int) - p)) ∧ ∃ k, w' = w.drewN k := by
  obtain ⟨A, n, c, hb, hs, hne, hA, hnc, hc, hp, he⟩ := h
  have c0 := hb.cell (j := 0) (u := .slice A n c) rfl
  have c1 := hb.cell (j := 1) (u := .int .i64 (p : Int)) rfl
  have hl := hs.len
  have H := Lib.hid hl
  have i0 : (p : Int) ≤ (n : Int) := by omega
  have i1 : (0 : Int) ≤ (p : Int) := by omega
  have i2 : (n : Int) ≤ 9223372036854775807 := by omega
  rw [← hl]
  clear hl he
  go_enter Try.func60, Try.ntmps60
  go_wp2
  go_quiet (fail)
  go_wp2
  go_ret
  exact ⟨rfl, _, rfl⟩

/-- The fault, read. -/
theorem Rr.cells {w : World} {br : Nat} {xs : List UInt8} {p e f : Nat} (h : Rr w br xs p e f) :
    w.cell? ⟨br, 1, none⟩ = some (.int .i64 (p : Int)) ∧ w.cell? ⟨br, 2, none⟩ = some (.int .i64 (e : Int)) ∧ w.cell? ⟨br, 3, none⟩ = some (.int .i64 (f : Int)) ∧ w.frozen? ⟨br, 1, none⟩ = false ∧ w.frozen? ⟨br, 2, none⟩ = false ∧ w.frozen? ⟨br, 3, none⟩ = false := by
  obtain ⟨A, n, c, hb, _⟩ := h
  exact ⟨hb.cell rfl, hb.cell rfl, hb.cell rfl, hb.free _, hb.free _, hb.free _⟩
/-- The first fault is kept. -/
theorem Rr.fault {w : World} {br : Nat} {xs : List UInt8} {p : Nat} (h : Rr w br xs p 0 0) (e f : Nat) (he : e ≠ 0) : Rr ((w.setCell ⟨br, 2, none⟩ (.int .i64 (e : Int))).setCell ⟨br, 3, none⟩ (.int .i64 (f : Int))) br xs p e f := by
  obtain ⟨A, n, c, hb, hs, hne, h3, h4, h5, h6, h7⟩ := h
  have g := (grown_setCell w ⟨br, 2, none⟩ (.int .i64 (e : Int))).trans (grown_setCell _ ⟨br, 3, none⟩ (.int .i64 (f : Int)))
  exact ⟨A, n, c, by simpa using (hb.setCell 2 (.int .i64 (e : Int))).setCell 3 (.int .i64 (f : Int)), hs.grown g (fun a ha => by intro e; injection e with e; have := hne a ha; simp only at e; omega), hne, h3, h4, h5, h6, fun e => absurd e he⟩
/-- The place goes on. -/
theorem Rr.go {w : World} {br : Nat} {xs : List UInt8} {p e f : Nat} (h : Rr w br xs p e f) (q : Nat) (hq : q ≤ xs.length) : Rr (w.setCell ⟨br, 1, none⟩ (.int .i64 (q : Int))) br xs q e f := by
  obtain ⟨A, n, c, hb, hs, hne, h3, h4, h5, h6, h7⟩ := h
  exact ⟨A, n, c, by simpa using hb.setCell 1 (.int .i64 (q : Int)), hs.grown (grown_setCell w ⟨br, 1, none⟩ (.int .i64 (q : Int))) (fun a ha => by intro e; injection e with e; have := hne a ha; simp only at e; omega), hne, h3, h4, h5, by rw [hs.len]; exact hq, h7⟩

set_option maxRecDepth 100000 in
set_option maxHeartbeats 400000 in
theorem fail_had (br : Nat) (xs : List UInt8) (p e f : Nat) (w : World) (h : Rr w br xs p e f) (he : e ≠ 0) (x y : Int) :
    Calls Try.prog 59 #[.pointer (some ⟨br, 0, none⟩), .int .i64 x, .int .i64 y] w fun r w' => r = .returned (.tuple #[]) ∧ w = w' := by
  obtain ⟨c1, c2, c3, f1, f2, f3⟩ := h.cells
  have t : ((e : Int) == 0) = false := by simpa using he
  clear h
  go_enter Try.func59, Try.ntmps59
  go_wp2
  go_end0
  exact ⟨rfl, rfl⟩

set_option maxRecDepth 100000 in
set_option maxHeartbeats 400000 in
theorem fail_new (br : Nat) (xs : List UInt8) (p : Nat) (w : World) (h : Rr w br xs p 0 0) (e f : Nat) (he : e ≠ 0) :
    Calls Try.prog 59 #[.pointer (some ⟨br, 0, none⟩), .int .i64 (e : Int), .int .i64 (f : Int)] w fun r w' => r = .returned (.tuple #[]) ∧ Rr w' br xs p e f ∧ w.grownBy w' (some br) ∧ w'.cell? ⟨br, 0, none⟩ = w.cell? ⟨br, 0, none⟩ := by
  obtain ⟨c1, c2, c3, f1, f2, f3⟩ := h.cells
  have hr := h.fault e f he
  have g := (grown_setCell w ⟨br, 2, none⟩ (.int .i64 (e : Int))).trans (grown_setCell _ ⟨br, 3, none⟩ (.int .i64 (f : Int)))
  have hk : ((w.setCell ⟨br, 2, none⟩ (.int .i64 (e : Int))).setCell ⟨br, 3, none⟩ (.int .i64 (f : Int))).cell? ⟨br, 0, none⟩ = w.cell? ⟨br, 0, none⟩ := (World.cell?_setCell_other _ _ _ _ (by simp)).trans (World.cell?_setCell_other _ _ _ _ (by simp))
  clear h
  go_enter Try.func59, Try.ntmps59
  go_wp2
  go_end0
  exact ⟨rfl, hr, g, hk⟩

set_option maxRecDepth 100000 in
set_option maxHeartbeats 400000 in
theorem look_had (br : Nat) (xs : List UInt8) (p e f : Nat) (w : World) (h : Rr w br xs p e f) (he : e ≠ 0) :
    Calls Try.prog 58 #[.pointer (some ⟨br, 0, none⟩)] w fun r w' => r = .returned (.tuple #[.int .u64 0, .bool false]) ∧ w = w' := by
  obtain ⟨c1, c2, c3, f1, f2, f3⟩ := h.cells
  have t : ((e : Int) == 0) = false := by simpa using he
  have t2 : ((e : Int) != 0) = true := by simpa using he
  clear h
  go_enter Try.func58, Try.ntmps58
  go_wp2_with fail
  go_ret2
  exact ⟨rfl, rfl⟩

set_option maxRecDepth 100000 in
set_option maxHeartbeats 400000 in
theorem look_end (br : Nat) (xs : List UInt8) (p : Nat) (w : World) (h : Rr w br xs p 0 0) (hp : xs.length < p + 8) :
    Calls Try.prog 58 #[.pointer (some ⟨br, 0, none⟩)] w fun r w' => r = .returned (.tuple #[.int .u64 0, .bool false]) ∧ Rr w' br xs p 3 xs.length ∧ w.grownBy w' (some br) := by
  obtain ⟨c1, c2, c3, f1, f2, f3⟩ := h.cells
  have h0 := h
  obtain ⟨A, n, c, hb, hs, hne, h3, h4, h5, h6, h7⟩ := h0
  have hl := hs.len
  have c0 := hb.cell (j := 0) (u := .slice A n c) rfl
  have t0 : (xs.length : Int) - p < 8 := by omega
  have Hl := Lib.hid hl
  clear hb hs hne h3 h7 hl
  go_enter Try.func58, Try.ntmps58
  go_wp2_with (first
    | (go_at_call 60; refine (left_ br xs p 0 0 _ h).mono ?_; rintro r w' ⟨rfl, k, rfl⟩)
    | (go_at_call 59; refine (fail_new br xs p _ (h.drewN k) 3 n (by decide)).mono ?_; rintro r w' ⟨rfl, hr, hg, _⟩))
  go_ret2
  rw [Hl.out] at hr
  exact ⟨rfl, hr, grown_step (below_grown (below_drewN (Below.refl _ w) k) (some br)) hg (fun _ e => .inr e)⟩

theorem or_step (a j c : Nat) (ha : a < 256 ^ j) (hj : j < 8) (hc : c < 256) : bits .or .u64 (a : Int) (IntKind.u64.wrap ((c : Int) * 2 ^ (8 * j))) = ((a + c * 256 ^ j : Nat) : Int) := by
  have hp : (2 : Int) ^ (8 * j) = ((256 ^ j : Nat) : Int) := by
    rw [show (256 : Nat) = 2 ^ 8 from rfl, ← Nat.pow_mul]
    simp
  have h7 : 256 ^ j ≤ 256 ^ 7 := Nat.pow_le_pow_right (by omega) (by omega)
  have h8 : c * 256 ^ j ≤ 255 * 256 ^ 7 := Nat.mul_le_mul (by omega) h7
  have e7 : 256 ^ 7 = 72057594037927936 := by decide
  rw [e7] at h7 h8
  have hw : IntKind.u64.wrap ((c : Int) * 2 ^ (8 * j)) = ((c * 256 ^ j : Nat) : Int) := by
    rw [hp, ← Int.natCast_mul, IntKind.wrap_u64]
    omega
  rw [hw, bits_or_u64_nat a (c * 256 ^ j) (by omega) (by omega)]
  have h2 := Nat.shiftLeft_add_eq_or_of_lt (b := a) (i := 8 * j) (by rw [Nat.pow_mul]; exact ha) c
  rw [Nat.shiftLeft_eq, Nat.pow_mul] at h2
  rw [Nat.or_comm, show (256 : Nat) = 2 ^ 8 from rfl, ← h2]
  omega

set_option maxRecDepth 100000 in
set_option maxHeartbeats 1000000 in
theorem look_ok (br : Nat) (xs : List UInt8) (p : Nat) (w : World) (h : Rr w br xs p 0 0) (hp : p + 8 ≤ xs.length) :
    Calls Try.prog 58 #[.pointer (some ⟨br, 0, none⟩)] w fun r w' => r = .returned (.tuple #[.int .u64 (numAt (xs.drop p) : Nat), .bool true]) ∧ ∃ k, w' = w.drewN k := by
  obtain ⟨c1, c2, c3, f1, f2, f3⟩ := h.cells
  have h0 := h
  obtain ⟨A, n, c, hb, hs, hne, h3, h4, h5, h6, h7⟩ := h0
  have hl := hs.len
  have c0 := hb.cell (j := 0) (u := .slice A n c) rfl
  have t0 : ¬ (xs.length : Int) - p < 8 := by omega
  have Hl := Lib.hid hl
  have hpn : p + 8 ≤ n := by omega
  clear hb hne h3 h7 hl
  go_enter Try.func58, Try.ntmps58
  go_wp2_with (first
    | (go_at_call 60; refine (left_ br xs p 0 0 _ h).mono ?_; rintro r w' ⟨rfl, k, rfl⟩))
  go_loopw [4, 22] (fun q i wr => ∃ j m : Nat, j ≤ 8 ∧ i = .int .i64 j ∧ q = .int .u64 (leNum ((xs.drop p).take j) : Nat) ∧ wr = w.drewN m) (fun _ i _ => 8 - (intOf i).toNat)
  case atStart => exact ⟨0, k, by omega, rfl, by simp [leNum], rfl⟩
  case round =>
    obtain ⟨j, m, hj, rfl, rfl, rfl⟩ := hrel
    by_cases hlt : j < 8
    · obtain ⟨b, o, rfl, hx, hc⟩ := hs.at_ (k := p + j) (by omega)
      have hl2 := leNum_lt ((xs.drop p).take j)
      have hbt := xs[p + j].toNat_lt
      have s1 : IntKind.i64.wrap ((p : Int) + (j : Int)) = (p : Int) + (j : Int) := IntWalk.i64_in _ (by omega)
      have s2 : (0 : Int) ≤ (p : Int) + (j : Int) := by omega
      have s3 : ((p : Int) + (j : Int)).toNat = p + j := by omega
      have s4 : IntKind.i64.wrap (8 * (j : Int)) = 8 * (j : Int) := IntWalk.i64_in _ (by omega)
      have s5 : (p : Int) + (j : Int) < (n : Int) := by omega
      clear hs
      have hlen : ((xs.drop p).take j).length = j := by rw [List.length_take, List.length_drop]; omega
      rw [hlen] at hl2
      have H1 := Lib.hid (or_step _ j xs[p + j].toNat hl2 hlt hbt)
      have H2 := Lib.hid (show (xs.drop p).take (j + 1) = (xs.drop p).take j ++ [xs[p + j]] by
        rw [List.take_add_one, List.getElem?_drop, List.getElem?_eq_getElem hx]; rfl)
      have H3 := Lib.hid (leNum_snoc ((xs.drop p).take j) xs[p + j])
      have H4 := Lib.hid hlen
      clear hlen hl2
      generalize leNum ((xs.drop p).take j) = q at *
      go_wp2_with fail
      go_quiet (fail)
      rw [H1.out]
      go_wp2
      go_roundw
      case rel => exact ⟨j + 1, m + nq, by omega, by go_num, by rw [H2.out, H3.out, H4.out], by simp⟩
      case measure => simp [intOf]; omega
    · have hj8 : j = 8 := by omega
      subst hj8
      go_wp2
      go_ret2
      exact ⟨rfl, m, rfl⟩
end Go.Proofs.Ytallbhdfbkkjkaa

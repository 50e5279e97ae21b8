/- Layer 16: an end as it lies in memory; given, New, Epoch, Open, Came, Owes; of one that nobody made. -/
import Derived.Test.YtlmaelbalmjlbaaSesA
import Derived.Test.YtlmaelbalmjlbaaClone
set_option linter.all false
namespace Go.Proofs.Ytlmaelbalmjlbaa
open Go.RowKit
namespace Ses
open Net

abbrev ea (e : En) (A : Option Addr) (n : Nat) : Array Value := #[.bool true, .int .i64 e.n, .int .i64 e.p, .int .i64 e.ep, .int .i64 (e.a : Int), .slice A n n, .int .i64 (e.c : Int), .bool e.o]
/-- The end at block b; its queue's blocks, and its loads', are some of U. -/
structure EdX (w : World) (b : Nat) (U : Nat → Prop) (e : En) (A : Option Addr) (n : Nat) (L : List Ld) : Prop where
  blk : Blk w b 75 (ea e A n)
  q : Lq w U A n L
  is : L.map (·.2) = e.l.drop e.a
  ack : e.a ≤ e.l.length
  few : e.l.length ≤ e.a + 8
  out : ¬ U b
  ok : nodeP e.n e.p e.ep
def Ed (w : World) (b : Nat) (U : Nat → Prop) (e : En) : Prop := ∃ A n L, EdX w b U e A n L
section
variable {w w' : World} {b : Nat} {U U' S : Nat → Prop} {e : En} {A : Option Addr} {n : Nat} {L : List Ld}
theorem EdX.fu (h : EdX w b U e A n L) (hf : Fu S w w') (hs : ∀ k, U k → ¬ S k) (hb : ¬ S b) : EdX w' b U e A n L := ⟨blk_fu h.blk hf hb, h.q.fu hf hs, h.is, h.ack, h.few, h.out, h.ok⟩
theorem Ed.fu (h : Ed w b U e) (hf : Fu S w w') (hs : ∀ k, U k → ¬ S k) (hb : ¬ S b) : Ed w' b U e := by
  obtain ⟨A, n, L, hX⟩ := h; exact ⟨A, n, L, hX.fu hf hs hb⟩
theorem Ed.keep (h : Ed w b U e) (hb : Below w.heap.size w w') : Ed w' b U e := h.fu (S := fun _ => False) (Fu.ofBelow hb) (fun _ _ e => e) (fun e => e)
theorem Ed.sub (h : Ed w b U e) (hu : ∀ k, U k → k < w.heap.size → U' k) (ho : ¬ U' b) : Ed w b U' e := by
  obtain ⟨A, n, L, hX⟩ := h; exact ⟨A, n, L, hX.blk, hX.q.sub hu, hX.is, hX.ack, hX.few, ho, hX.ok⟩
theorem Ed.lt (h : Ed w b U e) : b < w.heap.size := by obtain ⟨A, n, L, hX⟩ := h; exact hX.blk.lt
theorem Ed.ok (h : Ed w b U e) : nodeP e.n e.p e.ep ∧ e.a ≤ e.l.length ∧ e.l.length ≤ e.a + 8 := by obtain ⟨A, n, L, hX⟩ := h; exact ⟨hX.ok, hX.ack, hX.few⟩
theorem EdX.len (h : EdX w b U e A n L) : n = e.l.length - e.a := by
  have := congrArg List.length h.is
  rw [List.length_map, List.length_drop] at this
  rw [h.q.len, this]
theorem EdX.n8 (h : EdX w b U e A n L) : n ≤ 8 := by have := h.len; have := h.few; omega
theorem ea_cells (h : Blk w b 75 (ea e A n)) :
    w.cell? ⟨b, 0, none⟩ = some (.bool true) ∧ w.cell? ⟨b, 1, none⟩ = some (.int .i64 e.n) ∧ w.cell? ⟨b, 2, none⟩ = some (.int .i64 e.p) ∧ w.cell? ⟨b, 3, none⟩ = some (.int .i64 e.ep) ∧ w.cell? ⟨b, 4, none⟩ = some (.int .i64 (e.a : Int)) ∧ w.cell? ⟨b, 5, none⟩ = some (.slice A n n) ∧ w.cell? ⟨b, 6, none⟩ = some (.int .i64 (e.c : Int)) ∧ w.cell? ⟨b, 7, none⟩ = some (.bool e.o) :=
  ⟨h.cell rfl, h.cell rfl, h.cell rfl, h.cell rfl, h.cell rfl, h.cell rfl, h.cell rfl, h.cell rfl⟩
end
/-- An end that nobody made. -/
abbrev ea0 : Array Value := #[.bool false, .int .i64 0, .int .i64 0, .int .i64 0, .int .i64 0, .slice none 0 0, .int .i64 0, .bool false]
section
variable (w : World)
set_option maxRecDepth 100000 in
set_option maxHeartbeats 1000000 in
theorem given_ (b : Nat) (e : En) (A : Option Addr) (n : Nat) (h : Blk w b 75 (ea e A n)) : Calls Try.prog 31 #[.pointer (some ⟨b, 0, none⟩)] w fun e w' => e = .returned (.bool true) ∧ w = w' := by
  obtain ⟨c0, _⟩ := ea_cells h
  clear h
  go_enter Try.func31, Try.ntmps31
  go_wp2
  go_ret
  exact ⟨rfl, rfl⟩
set_option maxRecDepth 100000 in
set_option maxHeartbeats 1000000 in
theorem given_nil : Calls Try.prog 31 #[.pointer none] w fun e w' => e = .returned (.bool false) ∧ w = w' := by
  go_enter Try.func31, Try.ntmps31
  go_wp2
  go_ret
  exact ⟨rfl, rfl⟩
set_option maxRecDepth 100000 in
set_option maxHeartbeats 1000000 in
theorem given_no (b : Nat) (h : Blk w b 75 ea0) : Calls Try.prog 31 #[.pointer (some ⟨b, 0, none⟩)] w fun e w' => e = .returned (.bool false) ∧ w = w' := by
  have c0 := h.cell (j := 0) (u := .bool false) rfl
  clear h
  go_enter Try.func31, Try.ntmps31
  go_wp2
  go_ret
  exact ⟨rfl, rfl⟩
set_option maxRecDepth 100000 in
set_option maxHeartbeats 1000000 in
theorem may_ (x : Int) : Calls Try.prog 30 #[.int .i64 x] w fun e w' => e = .returned (.bool (decide (0 ≤ x ∧ x < 16))) ∧ w = w' := by
  by_cases h0 : 0 ≤ x
  · by_cases h1 : x < 16
    · go_enter Try.func30, Try.ntmps30
      go_wp2
      go_ret
      exact ⟨by simp [h0, h1], rfl⟩
    · go_enter Try.func30, Try.ntmps30
      go_wp2
      go_ret
      exact ⟨by simp [h1], rfl⟩
  · go_enter Try.func30, Try.ntmps30
    go_wp2
    go_ret
    exact ⟨by simp [h0]; omega, rfl⟩
set_option maxRecDepth 100000 in
set_option maxHeartbeats 1000000 in
theorem epoch_ (b : Nat) (U : Nat → Prop) (e : En) (h : Ed w b U e) : Calls Try.prog 22 #[.pointer (some ⟨b, 0, none⟩)] w fun r w' => r = .returned (.int .i64 e.ep) ∧ w = w' := by
  obtain ⟨A, n, L, h⟩ := h
  have hG := given_ w b e A n h.blk
  have HN := Lib.hid h.len
  obtain ⟨_, c1, c2, c3, c4, c5, c6, c7⟩ := ea_cells h.blk
  clear h
  go_enter Try.func22, Try.ntmps22
  go_wp2_with fail
  refine hG.mono ?_
  rintro r w' ⟨rfl, rfl⟩
  go_wp2
  go_ret
  exact ⟨by rfl, rfl⟩
set_option maxRecDepth 100000 in
set_option maxHeartbeats 1000000 in
theorem epoch_nil : Calls Try.prog 22 #[.pointer none] w fun r w' => r = .returned (.int .i64 0) ∧ w = w' := by
  go_enter Try.func22, Try.ntmps22
  go_wp2_with fail
  refine (given_nil w).mono ?_
  rintro r w' ⟨rfl, rfl⟩
  go_wp2
  go_ret
  exact ⟨rfl, rfl⟩
set_option maxRecDepth 100000 in
set_option maxHeartbeats 1000000 in
theorem epoch_no (b : Nat) (h : Blk w b 75 ea0) : Calls Try.prog 22 #[.pointer (some ⟨b, 0, none⟩)] w fun r w' => r = .returned (.int .i64 0) ∧ w = w' := by
  go_enter Try.func22, Try.ntmps22
  go_wp2_with fail
  refine (given_no w b h).mono ?_
  rintro r w' ⟨rfl, rfl⟩
  go_wp2
  go_ret
  exact ⟨rfl, rfl⟩
set_option maxRecDepth 100000 in
set_option maxHeartbeats 1000000 in
theorem open_ (b : Nat) (U : Nat → Prop) (e : En) (h : Ed w b U e) : Calls Try.prog 23 #[.pointer (some ⟨b, 0, none⟩)] w fun r w' => r = .returned (.int .i64 ((e.l.length - e.a : Nat) : Int)) ∧ w = w' := by
  obtain ⟨A, n, L, h⟩ := h
  have hG := given_ w b e A n h.blk
  have HN := Lib.hid h.len
  obtain ⟨_, c1, c2, c3, c4, c5, c6, c7⟩ := ea_cells h.blk
  clear h
  go_enter Try.func23, Try.ntmps23
  go_wp2_with fail
  refine hG.mono ?_
  rintro r w' ⟨rfl, rfl⟩
  go_wp2
  go_ret
  exact ⟨by rw [HN.out]; rfl, rfl⟩
set_option maxRecDepth 100000 in
set_option maxHeartbeats 1000000 in
theorem open_nil : Calls Try.prog 23 #[.pointer none] w fun r w' => r = .returned (.int .i64 0) ∧ w = w' := by
  go_enter Try.func23, Try.ntmps23
  go_wp2_with fail
  refine (given_nil w).mono ?_
  rintro r w' ⟨rfl, rfl⟩
  go_wp2
  go_ret
  exact ⟨rfl, rfl⟩
set_option maxRecDepth 100000 in
set_option maxHeartbeats 1000000 in
theorem open_no (b : Nat) (h : Blk w b 75 ea0) : Calls Try.prog 23 #[.pointer (some ⟨b, 0, none⟩)] w fun r w' => r = .returned (.int .i64 0) ∧ w = w' := by
  go_enter Try.func23, Try.ntmps23
  go_wp2_with fail
  refine (given_no w b h).mono ?_
  rintro r w' ⟨rfl, rfl⟩
  go_wp2
  go_ret
  exact ⟨rfl, rfl⟩
set_option maxRecDepth 100000 in
set_option maxHeartbeats 1000000 in
theorem came_ (b : Nat) (U : Nat → Prop) (e : En) (h : Ed w b U e) : Calls Try.prog 24 #[.pointer (some ⟨b, 0, none⟩)] w fun r w' => r = .returned (.int .i64 (e.c : Int)) ∧ w = w' := by
  obtain ⟨A, n, L, h⟩ := h
  have hG := given_ w b e A n h.blk
  have HN := Lib.hid h.len
  obtain ⟨_, c1, c2, c3, c4, c5, c6, c7⟩ := ea_cells h.blk
  clear h
  go_enter Try.func24, Try.ntmps24
  go_wp2_with fail
  refine hG.mono ?_
  rintro r w' ⟨rfl, rfl⟩
  go_wp2
  go_ret
  exact ⟨by rfl, rfl⟩
set_option maxRecDepth 100000 in
set_option maxHeartbeats 1000000 in
theorem came_nil : Calls Try.prog 24 #[.pointer none] w fun r w' => r = .returned (.int .i64 0) ∧ w = w' := by
  go_enter Try.func24, Try.ntmps24
  go_wp2_with fail
  refine (given_nil w).mono ?_
  rintro r w' ⟨rfl, rfl⟩
  go_wp2
  go_ret
  exact ⟨rfl, rfl⟩
set_option maxRecDepth 100000 in
set_option maxHeartbeats 1000000 in
theorem came_no (b : Nat) (h : Blk w b 75 ea0) : Calls Try.prog 24 #[.pointer (some ⟨b, 0, none⟩)] w fun r w' => r = .returned (.int .i64 0) ∧ w = w' := by
  go_enter Try.func24, Try.ntmps24
  go_wp2_with fail
  refine (given_no w b h).mono ?_
  rintro r w' ⟨rfl, rfl⟩
  go_wp2
  go_ret
  exact ⟨rfl, rfl⟩
set_option maxRecDepth 100000 in
set_option maxHeartbeats 1000000 in
theorem owes_ (b : Nat) (U : Nat → Prop) (e : En) (h : Ed w b U e) : Calls Try.prog 25 #[.pointer (some ⟨b, 0, none⟩)] w fun r w' => r = .returned (.bool e.o) ∧ w = w' := by
  obtain ⟨A, n, L, h⟩ := h
  have hG := given_ w b e A n h.blk
  have HN := Lib.hid h.len
  obtain ⟨_, c1, c2, c3, c4, c5, c6, c7⟩ := ea_cells h.blk
  clear h
  go_enter Try.func25, Try.ntmps25
  go_wp2_with fail
  refine hG.mono ?_
  rintro r w' ⟨rfl, rfl⟩
  go_wp2
  go_ret
  exact ⟨by rfl, rfl⟩
set_option maxRecDepth 100000 in
set_option maxHeartbeats 1000000 in
theorem owes_nil : Calls Try.prog 25 #[.pointer none] w fun r w' => r = .returned (.bool false) ∧ w = w' := by
  go_enter Try.func25, Try.ntmps25
  go_wp2_with fail
  refine (given_nil w).mono ?_
  rintro r w' ⟨rfl, rfl⟩
  go_wp2
  go_ret
  exact ⟨rfl, rfl⟩
set_option maxRecDepth 100000 in
set_option maxHeartbeats 1000000 in
theorem owes_no (b : Nat) (h : Blk w b 75 ea0) : Calls Try.prog 25 #[.pointer (some ⟨b, 0, none⟩)] w fun r w' => r = .returned (.bool false) ∧ w = w' := by
  go_enter Try.func25, Try.ntmps25
  go_wp2_with fail
  refine (given_no w b h).mono ?_
  rintro r w' ⟨rfl, rfl⟩
  go_wp2
  go_ret
  exact ⟨rfl, rfl⟩
end
end Ses
end Go.Proofs.Ytlmaelbalmjlbaa

/- Layer 5: the document's allocator on the heap, and its methods that only read: free, right, Waiting, Free, Count. -/
import Derived.Test.YtlkhlbieiogahaaAlcL
namespace Go.Proofs.Ytlkhlbieiogahaa
open Go.RowKit Go.Maps

/-- All that was there is as it was, but for the blocks that S tells of. -/
structure Kp (S : Nat → Prop) (w w' : World) : Prop where
  os : w'.os = w.os
  tape : w'.tape = w.tape
  output : w'.output = w.output
  size : w.heap.size ≤ w'.heap.size
  block : ∀ k, k < w.heap.size → ¬ S k → w'.heap[k]? = w.heap[k]?
theorem Kp.refl (S : Nat → Prop) (w : World) : Kp S w w := ⟨rfl, rfl, rfl, Nat.le_refl _, fun _ _ _ => rfl⟩
theorem Kp.trans {S : Nat → Prop} {a b c : World} (h : Kp S a b) (k : Kp S b c) : Kp S a c :=
  ⟨k.os.trans h.os, k.tape.trans h.tape, k.output.trans h.output, Nat.le_trans h.size k.size, fun i hi ho => (k.block i (Nat.lt_of_lt_of_le hi h.size) ho).trans (h.block i hi ho)⟩
theorem Kp.ofTn {S : Nat → Prop} {lo hi : Nat} {a b : World} (h : Tn lo hi a b) (hS : ∀ k, lo ≤ k → k < hi → S k) : Kp S a b :=
  ⟨h.os, h.tape, h.output, h.size, fun i hi' ho => h.block i hi' (by
    rcases Nat.lt_or_ge i lo with h1 | h1
    · exact .inl h1
    · rcases Nat.lt_or_ge i hi with h2 | h2
      · exact (ho (hS i h1 h2)).elim
      · exact .inr h2)⟩
theorem Kp.ofBelow {S : Nat → Prop} {a b : World} (h : Below a.heap.size a b) : Kp S a b := ⟨h.os, h.tape, h.output, h.size, fun i hi _ => h.block i hi⟩
theorem Kp.set {S : Nat → Prop} {b : Nat} (w : World) (o : Nat) (u : Value) (h : S b) : Kp S w (w.setCell ⟨b, o, none⟩ u) :=
  .ofTn (Tn.set _ _ _ (Nat.le_refl _) (Nat.lt_succ_self _)) fun k h1 h2 => by have : k = b := by omega
                                                                              rw [this]; exact h
theorem Kp.blk {S : Nat → Prop} {w w' : World} (h : Kp S w w') {b : Nat} {t : TypeId} {cs : Array Value} (hc : Blk w b t cs) (ho : ¬ S b) : Blk w' b t cs := (h.block _ hc.lt ho).trans hc
theorem Kp.below {S : Nat → Prop} {B : Nat} {w w' : World} (h : Kp S w w') (hS : ∀ k, S k → B ≤ k) (hB : B ≤ w.heap.size) : Below B w w' :=
  ⟨h.os, h.tape, h.output, h.size, fun k hk => h.block k (by omega) fun hs => by have := hS k hs; omega⟩

def hd (c : Nat → Int) : Nat → Int := fun j => max 0 (c j)
def wt (c : Nat → Int) : Nat → Value := fun j => .bool (c j == -1)
/-- The document's allocator: its counts in block p, who waits in q, itself in r. -/
structure Ra (w : World) (p q r N : Nat) (c : Nat → Int) : Prop where
  cnt : Blk w p 3 (rowA N (ivF (hd c)))
  wait : Blk w q 4 (rowA N (wt c))
  self : Blk w r 30 #[.slice (some ⟨p, 0, none⟩) N N, .slice (some ⟨q, 0, none⟩) N N]
  most : N ≤ 4096
  least : 0 < N
  rng : Rng N c
  pq : p ≠ q
  pr : p ≠ r
  qr : q ≠ r
theorem Ra.kp {S : Nat → Prop} {w w' : World} {p q r N : Nat} {c : Nat → Int} (h : Ra w p q r N c) (hk : Kp S w w') (hp : ¬ S p) (hq : ¬ S q) (hr : ¬ S r) : Ra w' p q r N c :=
  ⟨hk.blk h.cnt hp, hk.blk h.wait hq, hk.blk h.self hr, h.most, h.least, h.rng, h.pq, h.pr, h.qr⟩
theorem Ra.below {w w' : World} {p q r N : Nat} {c : Nat → Int} (h : Ra w p q r N c) (hb : Below w.heap.size w w') : Ra w' p q r N c := h.kp (S := fun _ => False) (Kp.ofBelow hb) id id id
theorem Ra.drew {w : World} {p q r N : Nat} {c : Nat → Int} (h : Ra w p q r N c) : Ra w.drew p q r N c := ⟨h.cnt, h.wait, h.self, h.most, h.least, h.rng, h.pq, h.pr, h.qr⟩
theorem Ra.drewN {w : World} {p q r N : Nat} {c : Nat → Int} (h : Ra w p q r N c) (n : Nat) : Ra (w.drewN n) p q r N c := ⟨h.cnt, h.wait, h.self, h.most, h.least, h.rng, h.pq, h.pr, h.qr⟩
theorem Ra.at_ {w : World} {p q r N : Nat} {c : Nat → Int} (h : Ra w p q r N c) {j : Nat} (hj : j < N) : w.cell? ⟨p, j, none⟩ = some (.int .i64 (max 0 (c j))) := h.cnt.cell (rowA_at _ hj)
theorem Ra.wat {w : World} {p q r N : Nat} {c : Nat → Int} (h : Ra w p q r N c) {j : Nat} (hj : j < N) : w.cell? ⟨q, j, none⟩ = some (.bool (c j == -1)) := h.wait.cell (rowA_at _ hj)

section
variable (p q r N : Nat) (c : Nat → Int) (w : World)
set_option maxRecDepth 100000 in
theorem rfree_ (j : Nat) (h : Ra w p q r N c) (hj : j < N) : Calls Try.prog 28 #[.pointer (some ⟨r, 0, none⟩), .int .i64 (j : Int)] w fun e w' => e = .returned (.bool (decide (c j = 0))) ∧ w = w' := by
  have c0 := h.self.cell (j := 0) (u := .slice (some ⟨p, 0, none⟩) N N) rfl
  have c1 := h.self.cell (j := 1) (u := .slice (some ⟨q, 0, none⟩) N N) rfl
  have hc := h.at_ hj
  have hq := h.wat hj
  have hr := h.rng j hj
  have hjl : (j : Int) < (N : Int) := by omega
  by_cases h0 : c j = 0
  · have Hd := Lib.hid (decide_eq_true h0)
    rw [h0] at hc hq
    have hc' : w.cell? ⟨p, j, none⟩ = some (.int .i64 0) := hc
    have hq' : w.cell? ⟨q, j, none⟩ = some (.bool false) := hq
    clear h0 hc hq
    go_enter Try.func28, Try.ntmps28
    go_wp2
    go_ret
    rw [Hd.out]
    exact ⟨rfl, rfl⟩
  · have Hd := Lib.hid (decide_eq_false h0)
    by_cases h1 : c j = -1
    · rw [h1] at hc hq
      have hc' : w.cell? ⟨p, j, none⟩ = some (.int .i64 0) := hc
      have hq' : w.cell? ⟨q, j, none⟩ = some (.bool true) := hq
      clear h0 hc hq h1
      go_enter Try.func28, Try.ntmps28
      go_wp2
      go_ret
      rw [Hd.out]
      exact ⟨rfl, rfl⟩
    · have hne : (max 0 (c j) == 0) = false := by
        have : ¬ max 0 (c j) = 0 := by omega
        simpa using this
      clear h0 h1
      go_enter Try.func28, Try.ntmps28
      go_wp2
      go_ret
      rw [Hd.out]
      exact ⟨rfl, rfl⟩

set_option maxRecDepth 100000 in
set_option maxHeartbeats 1000000 in
theorem rright_ (f n : Int) (h : Ra w p q r N c) (hf : -9223372036854775808 ≤ f ∧ f ≤ 9223372036854775807) (hn : -9223372036854775808 ≤ n ∧ n ≤ 9223372036854775807) :
    Calls Try.prog 30 #[.pointer (some ⟨r, 0, none⟩), .int .i64 f, .int .i64 n] w fun e w' => e = .returned (.int .i64 (rightR N c f n)) ∧ w = w' := by
  have c1 := h.self.cell (j := 0) (u := .slice (some ⟨p, 0, none⟩) N N) rfl
  have hm := h.most
  by_cases h1 : n < 1
  · have hr : rightR N c f n = 1 := by unfold rightR; rw [if_pos (.inl h1)]
    have Hr := Lib.hid hr
    clear hr
    go_enter Try.func30, Try.ntmps30
    go_wp2
    go_ret
    rw [Hr.out]
    exact ⟨rfl, rfl⟩
  · by_cases h2 : f < 0
    · have hr : rightR N c f n = 1 := by unfold rightR; rw [if_pos (.inr (.inl h2))]
      have Hr := Lib.hid hr
      clear hr
      go_enter Try.func30, Try.ntmps30
      go_wp2
      go_ret
      rw [Hr.out]
      exact ⟨rfl, rfl⟩
    · by_cases h3 : (N : Int) - f < n
      · have hr : rightR N c f n = 1 := by unfold rightR; rw [if_pos (.inr (.inr h3))]
        have Hr := Lib.hid hr
        clear hr
        by_cases h4 : (N : Int) ≤ f
        · clear h3
          go_enter Try.func30, Try.ntmps30
          go_wp2
          go_ret
          rw [Hr.out]
          exact ⟨rfl, rfl⟩
        · go_enter Try.func30, Try.ntmps30
          go_wp2
          go_ret
          rw [Hr.out]
          exact ⟨rfl, rfl⟩
      · obtain ⟨f, rfl⟩ := Int.eq_ofNat_of_zero_le (show 0 ≤ f by omega)
        obtain ⟨n, rfl⟩ := Int.eq_ofNat_of_zero_le (show 0 ≤ n by omega)
        have hr : rightR N c f n = if anyIn (fun x => x < 1) c f n then 9 else 0 := by unfold rightR; rw [if_neg (by omega)]; rfl
        have Hr := Lib.hid hr
        have h4 : (f : Int) < (N : Int) := by omega
        clear hr
        go_enter Try.func30, Try.ntmps30
        go_wp2_with fail
        go_loopw [7] (fun iv wr => ∃ i : Nat, i ≤ n ∧ iv = .int .i64 ((f + i : Nat) : Int) ∧ anyIn (fun x => x < 1) c f i = false ∧ w = wr) (fun iv _ => f + n - (intOf iv).toNat)
        case atStart => exact ⟨0, Nat.zero_le _, rfl, rfl, rfl⟩
        case round =>
          obtain ⟨i, hi, rfl, ha, rfl⟩ := hrel
          have hwn : IntKind.i64.wrap ((f : Int) + (n : Int)) = ((f + n : Nat) : Int) := by rw [IntKind.wrap_i64]; omega
          by_cases hlt : i < n
          · have hil : ((f + i : Nat) : Int) < ((f + n : Nat) : Int) := by omega
            have hc := h.at_ (j := f + i) (by omega)
            have hrg := h.rng (f + i) (by omega)
            by_cases hx : c (f + i) < 1
            · have Ha := Lib.hid (anyIn_true (p := fun x => x < 1) (c := c) (lo := f) hlt (by simpa using hx))
              have hx0 : (max 0 (c (f + i)) == 0) = true := by
                have : max 0 (c (f + i)) = 0 := by omega
                simpa using this
              clear ha hx
              go_wp2
              go_ret
              rw [Hr.out, Ha.out]
              exact ⟨rfl, rfl⟩
            · have Ha := Lib.hid (anyIn_no (p := fun x => x < 1) ha (by simpa using hx))
              have hx0 : (max 0 (c (f + i)) == 0) = false := by
                have : ¬ max 0 (c (f + i)) = 0 := by omega
                simpa using this
              clear ha hx
              go_wp2
              go_roundw
              case rel => exact ⟨i + 1, by omega, by go_num, Ha.out, trivial⟩
              case measure => simp [intOf]; omega
          · have hin : ((f + n : Nat) : Int) ≤ ((f + i : Nat) : Int) := by omega
            have he : i = n := by omega
            rw [he] at ha
            have Ha := Lib.hid ha
            clear ha he
            go_wp2
            go_ret
            rw [Hr.out, Ha.out]
            exact ⟨rfl, rfl⟩

set_option maxRecDepth 100000 in
set_option maxHeartbeats 1000000 in
theorem rwaiting_ (h : Ra w p q r N c) : Calls Try.prog 23 #[.pointer (some ⟨r, 0, none⟩)] w fun e w' => e = .returned (.int .i64 (waitR N c)) ∧ w = w' := by
  have c1 := h.self.cell (j := 1) (u := .slice (some ⟨q, 0, none⟩) N N) rfl
  have hm := h.most
  go_enter Try.func23, Try.ntmps23
  go_wp2_with fail
  go_loopw [3, 4] (fun nv iv wr => ∃ i : Nat, i ≤ N ∧ iv = .int .i64 (i : Int) ∧ nv = .int .i64 ((cntIn (· == -1) c 0 i : Nat) : Int) ∧ w = wr) (fun _ iv _ => N - (intOf iv).toNat)
  case atStart => exact ⟨0, Nat.zero_le _, rfl, rfl, rfl⟩
  case round =>
    obtain ⟨i, hi, rfl, rfl, rfl⟩ := hrel
    by_cases hlt : i < N
    · have hil : (i : Int) < (N : Int) := by omega
      have hc := h.wat hlt
      have hle := cntIn_le (· == -1) c 0 i
      have hz : (0 : Nat) + i = i := Nat.zero_add i
      cases hx : c i == -1 with
      | true =>
        have Hn := Lib.hid (cntIn_yes (p := (· == -1)) (c := c) (lo := 0) (k := i) (by rw [hz]; exact hx))
        rw [hx] at hc
        clear hx
        generalize cntIn (· == -1) c 0 i = m at *
        go_wp2
        go_roundw
        case rel => exact ⟨i + 1, by omega, by go_num, by rw [Hn.out]; go_num, trivial⟩
        case measure => simp [intOf]; omega
      | false =>
        have Hn := Lib.hid (cntIn_no (p := (· == -1)) (c := c) (lo := 0) (k := i) (by rw [hz]; exact hx))
        rw [hx] at hc
        clear hx
        generalize cntIn (· == -1) c 0 i = m at *
        go_wp2
        go_roundw
        case rel => exact ⟨i + 1, by omega, by go_num, by rw [Hn.out], trivial⟩
        case measure => simp [intOf]; omega
    · have hin : (N : Int) ≤ (i : Int) := by omega
      have He := Lib.hid (show i = N by omega)
      go_wp2
      go_ret
      exact ⟨by rw [He.out]; rfl, rfl⟩
set_option maxRecDepth 100000 in
set_option maxHeartbeats 1000000 in
theorem rfreeN_ (h : Ra w p q r N c) : Calls Try.prog 21 #[.pointer (some ⟨r, 0, none⟩)] w fun e w' => e = .returned (.int .i64 (freeR N c)) ∧ w = w' := by
  have c1 := h.self.cell (j := 0) (u := .slice (some ⟨p, 0, none⟩) N N) rfl
  have hm := h.most
  go_enter Try.func21, Try.ntmps21
  go_wp2_with fail
  go_loopw [3, 4] (fun nv iv wr => ∃ i : Nat, i ≤ N ∧ iv = .int .i64 (i : Int) ∧ nv = .int .i64 ((cntIn (· == 0) c 0 i : Nat) : Int) ∧ w = wr) (fun _ iv _ => N - (intOf iv).toNat)
  case atStart => exact ⟨0, Nat.zero_le _, rfl, rfl, rfl⟩
  case round =>
    obtain ⟨i, hi, rfl, rfl, rfl⟩ := hrel
    by_cases hlt : i < N
    · have hil : (i : Int) < (N : Int) := by omega
      have hle := cntIn_le (· == 0) c 0 i
      have hz : (0 : Nat) + i = i := Nat.zero_add i
      by_cases hx : c i = 0
      · have Hn := Lib.hid (cntIn_yes (p := (· == 0)) (c := c) (lo := 0) (k := i) (by rw [hz]; simpa using hx))
        have Hd := Lib.hid (decide_eq_true hx)
        clear hx
        generalize cntIn (· == 0) c 0 i = m at *
        go_wp2_with fail
        refine (rfree_ p q r N c w i h hlt).mono ?_
        rw [Hd.out]
        rintro e w' ⟨rfl, rfl⟩
        go_wp2
        go_roundw
        case rel => exact ⟨i + 1, by omega, by go_num, by rw [Hn.out]; go_num, trivial⟩
        case measure => simp [intOf]; omega
      · have Hn := Lib.hid (cntIn_no (p := (· == 0)) (c := c) (lo := 0) (k := i) (by rw [hz]; simpa using hx))
        have Hd := Lib.hid (decide_eq_false hx)
        clear hx
        generalize cntIn (· == 0) c 0 i = m at *
        go_wp2_with fail
        refine (rfree_ p q r N c w i h hlt).mono ?_
        rw [Hd.out]
        rintro e w' ⟨rfl, rfl⟩
        go_wp2
        go_roundw
        case rel => exact ⟨i + 1, by omega, by go_num, by rw [Hn.out], trivial⟩
        case measure => simp [intOf]; omega
    · have hin : (N : Int) ≤ (i : Int) := by omega
      have He := Lib.hid (show i = N by omega)
      go_wp2
      go_ret
      exact ⟨by rw [He.out]; rfl, rfl⟩
set_option maxRecDepth 100000 in
theorem rcount_ (i : Int) (h : Ra w p q r N c) : Calls Try.prog 25 #[.pointer (some ⟨r, 0, none⟩), .int .i64 i] w fun e w' => e = .returned (.int .i64 (countR N c i)) ∧ w = w' := by
  have c1 := h.self.cell (j := 0) (u := .slice (some ⟨p, 0, none⟩) N N) rfl
  have hm := h.most
  by_cases h0 : i < 0
  · have Hr := Lib.hid (show countR N c i = 0 by unfold countR; rw [if_pos (.inl h0)])
    go_enter Try.func25, Try.ntmps25
    go_wp2
    go_ret
    rw [Hr.out]
    exact ⟨rfl, rfl⟩
  · by_cases h1 : (N : Int) ≤ i
    · have Hr := Lib.hid (show countR N c i = 0 by unfold countR; rw [if_pos (.inr h1)])
      go_enter Try.func25, Try.ntmps25
      go_wp2
      go_ret
      rw [Hr.out]
      exact ⟨rfl, rfl⟩
    · obtain ⟨i, rfl⟩ := Int.eq_ofNat_of_zero_le (show 0 ≤ i by omega)
      have Hr := Lib.hid (show countR N c i = max 0 (c i) by unfold countR; rw [if_neg (by omega)]; rfl)
      have hc := h.at_ (j := i) (by omega)
      go_enter Try.func25, Try.ntmps25
      go_wp2
      go_ret
      rw [Hr.out]
      exact ⟨rfl, rfl⟩
end
end Go.Proofs.Ytlkhlbieiogahaa

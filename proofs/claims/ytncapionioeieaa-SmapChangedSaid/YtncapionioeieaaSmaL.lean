/- Layer 13: whether two rows of pieces, two maps are the same: slices.Equal, smap's Same, the document's Pieces and Same; theirs, ours. -/
import Derived.Test.YtncapionioeieaaSmaF
set_option linter.all false
namespace Go.Proofs.Ytncapionioeieaa
open Go.RowKit
namespace Sma

/-- The same pieces. -/
def sameB : List Pc → List Pc → Bool
  | [], [] => true
  | p :: l, q :: r => decide (p = q) && sameB l r
  | _, _ => false
theorem sameB_refl : ∀ l : List Pc, sameB l l = true
  | [] => rfl
  | p :: l => by simp [sameB, sameB_refl l]
theorem sameB_len : ∀ {l r : List Pc}, l.length ≠ r.length → sameB l r = false
  | [], [], h => by simp at h
  | [], q :: r, h => rfl
  | p :: l, [], h => rfl
  | p :: l, q :: r, h => by rw [sameB, sameB_len (by simpa using h), Bool.and_false]
theorem sameB_drop {l r : List Pc} {k : Nat} {p q : Pc} (hp : l[k]? = some p) (hq : r[k]? = some q) : sameB (l.drop k) (r.drop k) = (decide (p = q) && sameB (l.drop (k + 1)) (r.drop (k + 1))) := by
  rw [drop_of hp, drop_of hq]; rfl
set_option maxRecDepth 100000 in
theorem neq_pc (a b c a' b' c' : Int) (w : World) : (binOp .neq 58 (.agg #[.int .i64 a, .int .i64 b, .int .i64 c]) (.agg #[.int .i64 a', .int .i64 b', .int .i64 c'])).run Try.prog w = .ok (.bool (!decide (a = a' ∧ b = b' ∧ c = c'))) w := by
  have hu := Try.underlying58
  obtain ⟨fs, hf⟩ : ∃ fs, Try.prog.fieldsOf 58 = fs := ⟨_, rfl⟩
  have hf' := hf
  unfold Program.fieldsOf at hf'
  rw [hu] at hf'
  simp only at hf'
  subst hf'
  have hi : Try.prog.underlying 3 = some (.int .i64) := Try.underlying3
  have he : (Op.equalIn 10000 58 (.agg #[.int .i64 a, .int .i64 b, .int .i64 c]) (.agg #[.int .i64 a', .int .i64 b', .int .i64 c'])).run Try.prog w = .ok (decide (a = a' ∧ b = b' ∧ c = c')) w := by
    rw [run_equalIn_struct w 9999 58 _ _ (by rw [hf, hu]) (by kernel_rfl), hf]
    have q : ∀ z y, (Op.equalIn 9999 3 (.int .i64 z) (.int .i64 y)).run Try.prog w = .ok (decide (z = y)) w := fun z y => by
      rw [run_equalIn_int w 9998 3 .i64 .i64 z y hi]; simp [Bool.beq_eq_decide_eq]
    by_cases h0 : a = a'
    · by_cases h1 : b = b'
      · by_cases h2 : c = c'
        · simp [Op.eqFields, go_sem, q, h0, h1, h2]
        · simp [Op.eqFields, go_sem, q, h0, h1, h2]
      · simp [Op.eqFields, go_sem, q, h0, h1]
    · simp [Op.eqFields, go_sem, q, h0]
  simp only [binOp]
  simp [Op.equal, Op.maxDepth, he]
theorem pc_eq {p q : Pc} : p = q ↔ p.fr = q.fr ∧ p.en = q.en ∧ p.nd = q.nd := by
  constructor
  · rintro rfl; exact ⟨rfl, rfl, rfl⟩
  · obtain ⟨a, b, c⟩ := p
    obtain ⟨a', b', c'⟩ := q
    rintro ⟨h1, h2, h3⟩
    simp only at h1 h2 h3
    subst h1 h2 h3
    rfl
theorem neq_p (p q : Pc) (w : World) : (binOp .neq 58 (.agg #[.int .i64 p.fr, .int .i64 p.en, .int .i64 p.nd]) (.agg #[.int .i64 q.fr, .int .i64 q.en, .int .i64 q.nd])).run Try.prog w = .ok (.bool (!decide (p = q))) w := by
  have e : decide (p.fr = q.fr ∧ p.en = q.en ∧ p.nd = q.nd) = decide (p = q) := decide_eq_decide.2 pc_eq.symm
  rw [← e]
  exact neq_pc _ _ _ _ _ _ w
def sameM (m x : Mp) : Bool := decide (m.v = x.v) && decide (m.n = x.n) && sameB m.ps x.ps
theorem sameM_refl (m : Mp) : sameM m m = true := by simp [sameM, sameB_refl]
theorem sameM_no {m x : Mp} (h : ¬ m.v = x.v ∨ ¬ m.n = x.n ∨ sameB m.ps x.ps = false) : sameM m x = false := by
  rcases h with h | h | h <;> simp [sameM, h]
section
variable (w : World)
set_option maxRecDepth 100000 in
set_option maxHeartbeats 2000000 in
theorem pieces_ (A A' : Option Addr) (n n' c c' : Nat) (l r : List Pc) (h : Ps w A n l) (h' : Ps w A' n' r) (hn : n ≤ 9223372036854775807) (hn' : n' ≤ 9223372036854775807) :
    Calls Try.prog 29 #[.slice A n c, .slice A' n' c'] w fun e w' => ∃ k, e = .returned (.bool (sameB l r)) ∧ w' = w.drewN k := by
  by_cases hl : n = n'
  · subst hl
    have Hl := Lib.hid h.len
    have Hr := Lib.hid h'.len
    have t0 : ((n : Int) != (n : Int)) = false := by simp
    go_enter Try.func29, Try.ntmps29
    go_wp2_with fail
    go_loopw [5] (fun iv wr => ∃ i : Nat, i ≤ n ∧ iv = .int .i64 (i : Int) ∧ sameB (l.drop i) (r.drop i) = sameB l r ∧ ∃ k, wr = w.drewN k) (fun iv _ => n - (intOf iv).toNat)
    case atStart => exact ⟨0, Nat.zero_le _, rfl, rfl, 0, rfl⟩
    case round =>
      obtain ⟨i, hi, rfl, hL, k, rfl⟩ := hrel
      by_cases hlt : i < n
      · have hil : (i : Int) < (n : Int) := by omega
        have hi0 : (0 : Int) ≤ (i : Int) := by omega
        obtain ⟨b, o, rfl, p, hp, fp, c0, c1, c2⟩ := h.at_ hlt
        obtain ⟨b', o', rfl, q, hq, fq, d0, d1, d2⟩ := h'.at_ hlt
        rw [sameB_drop hp hq] at hL
        have hne := fun W => neq_p p q W
        clear hp hq h h'
        by_cases he : p = q
        · have HL := Lib.hid (show sameB (l.drop (i + 1)) (r.drop (i + 1)) = sameB l r by rw [← hL]; simp [he])
          rw [show (!decide (p = q)) = false by simp [he]] at hne
          clear hL he
          go_wp2_with fail
          go_quiet (fail)
          go_wp2
          go_roundw
          case rel => exact ⟨i + 1, by omega, by go_num, HL.out, _, rfl⟩
          case measure => simp [intOf]; omega
        · have HB := Lib.hid (show sameB l r = false by rw [← hL]; simp [he])
          rw [show (!decide (p = q)) = true by simp [he]] at hne
          clear hL he
          go_wp2_with fail
          go_quiet (fail)
          go_wp2
          go_ret
          rw [HB.out]
          exact ⟨k + nq, rfl, by simp⟩
      · have hin : (n : Int) ≤ (i : Int) := by omega
        have HB := Lib.hid (show sameB l r = true by rw [← hL, drop_end Hl.out (by omega), drop_end Hr.out (by omega)]; rfl)
        clear hL
        go_wp2
        go_ret
        rw [HB.out]
        exact ⟨k, rfl, rfl⟩
  · have HB := Lib.hid (show sameB l r = false from sameB_len (by have := h.len; have := h'.len; omega))
    have t0 : ((n : Int) != (n' : Int)) = true := by simp; omega
    clear hl h h'
    go_enter Try.func29, Try.ntmps29
    go_wp2
    go_ret
    rw [HB.out]
    exact ⟨0, rfl, rfl⟩
set_option maxRecDepth 100000 in
set_option maxHeartbeats 2000000 in
theorem equal_ (A A' : Option Addr) (n n' c c' : Nat) (l r : List Pc) (h : Ps w A n l) (h' : Ps w A' n' r) (hn : n ≤ 9223372036854775807) (hn' : n' ≤ 9223372036854775807) :
    Calls Try.prog 36 #[.slice A n c, .slice A' n' c'] w fun e w' => ∃ k, e = .returned (.bool (sameB l r)) ∧ w' = w.drewN k := by
  by_cases hl : n = n'
  · subst hl
    have Hl := Lib.hid h.len
    have Hr := Lib.hid h'.len
    have t0 : ((n : Int) != (n : Int)) = false := by simp
    go_enter Try.func36, Try.ntmps36
    go_wp2_with fail
    go_loopw [13] (fun iv wr => ∃ i : Nat, i ≤ n ∧ iv = .int .i64 (i : Int) ∧ sameB (l.drop i) (r.drop i) = sameB l r ∧ ∃ k, wr = w.drewN k) (fun iv _ => n - (intOf iv).toNat)
    case atStart => exact ⟨0, Nat.zero_le _, rfl, rfl, 0, rfl⟩
    case round =>
      obtain ⟨i, hi, rfl, hL, k, rfl⟩ := hrel
      by_cases hlt : i < n
      · have hil : (i : Int) < (n : Int) := by omega
        have hi0 : (0 : Int) ≤ (i : Int) := by omega
        obtain ⟨b, o, rfl, p, hp, fp, c0, c1, c2⟩ := h.at_ hlt
        obtain ⟨b', o', rfl, q, hq, fq, d0, d1, d2⟩ := h'.at_ hlt
        rw [sameB_drop hp hq] at hL
        have hne := fun W => neq_p p q W
        clear hp hq h h'
        by_cases he : p = q
        · have HL := Lib.hid (show sameB (l.drop (i + 1)) (r.drop (i + 1)) = sameB l r by rw [← hL]; simp [he])
          rw [show (!decide (p = q)) = false by simp [he]] at hne
          clear hL he
          go_wp2_with fail
          go_quiet (fail)
          go_wp2
          go_roundw
          case rel => exact ⟨i + 1, by omega, by go_num, HL.out, _, rfl⟩
          case measure => simp [intOf]; omega
        · have HB := Lib.hid (show sameB l r = false by rw [← hL]; simp [he])
          rw [show (!decide (p = q)) = true by simp [he]] at hne
          clear hL he
          go_wp2_with fail
          go_quiet (fail)
          go_wp2
          go_ret
          rw [HB.out]
          exact ⟨k + nq, rfl, by simp⟩
      · have hin : (n : Int) ≤ (i : Int) := by omega
        have HB := Lib.hid (show sameB l r = true by rw [← hL, drop_end Hl.out (by omega), drop_end Hr.out (by omega)]; rfl)
        clear hL
        go_wp2
        go_ret
        rw [HB.out]
        exact ⟨k, rfl, rfl⟩
  · have HB := Lib.hid (show sameB l r = false from sameB_len (by have := h.len; have := h'.len; omega))
    have t0 : ((n : Int) != (n' : Int)) = true := by simp; omega
    clear hl h h'
    go_enter Try.func36, Try.ntmps36
    go_wp2
    go_ret
    rw [HB.out]
    exact ⟨0, rfl, rfl⟩
set_option maxRecDepth 100000 in
set_option maxHeartbeats 2000000 in
theorem same_ (m x : Mp) (A A' : Option Addr) (k k' c c' : Nat) (h : Mr w m A k c) (h' : Mr w x A' k' c') :
    Calls Try.prog 17 #[mv m A k c, mv x A' k' c'] w fun e w' => e = .returned (.bool (sameM m x)) ∧ Below w.heap.size w w' := by
  have hv := h.v
  have hn := h.n
  have hv' := h'.v
  have hn' := h'.n
  unfold I64 at hv hn hv' hn'
  have hbx : Below w.heap.size w ((w.alloc (.cells #[.int .i64 m.v, .int .i64 m.n, .slice A k c] 26)).alloc (.cells #[.int .i64 x.v, .int .i64 x.n, .slice A' k' c'] 26)) := ((Below.refl w.heap.size w).alloc (Nat.le_refl _) _).alloc (by simp) _
  have hp1 := h.ps.below hbx
  have hp2 := h'.ps.below hbx
  have hk := Nat.le_trans h.le h.cap
  have hk' := Nat.le_trans h'.le h'.cap
  simp only [mv]
  clear h h'
  by_cases h0 : m.v = x.v
  · have t0 : (m.v == x.v) = true := by simpa using h0
    by_cases h1 : m.n = x.n
    · have t1 : (m.n == x.n) = true := by simpa using h1
      have HR := Lib.hid (show sameM m x = sameB m.ps x.ps by simp [sameM, h0, h1])
      clear h0 h1
      go_enter Try.func17, Try.ntmps17
      go_wp2_with fail
      refine (equal_ _ A A' k k' c c' m.ps x.ps hp1 hp2 hk hk').mono ?_
      rintro e w2 ⟨j, rfl, rfl⟩
      go_wp2
      go_ret
      rw [HR.out]
      exact ⟨by simp, below_drewN hbx j⟩
    · have t1 : (m.n == x.n) = false := by simpa using h1
      have HR := Lib.hid (sameM_no (m := m) (x := x) (.inr (.inl h1)))
      clear h0 h1
      go_enter Try.func17, Try.ntmps17
      go_wp2
      go_ret
      rw [HR.out]
      exact ⟨rfl, hbx⟩
  · have t0 : (m.v == x.v) = false := by simpa using h0
    have HR := Lib.hid (sameM_no (m := m) (x := x) (.inl h0))
    clear h0
    go_enter Try.func17, Try.ntmps17
    go_wp2
    go_ret
    rw [HR.out]
    exact ⟨rfl, hbx⟩
set_option maxRecDepth 100000 in
set_option maxHeartbeats 2000000 in
theorem rsame_ (m x : Mp) (A A' : Option Addr) (k k' c c' : Nat) (h : Mr w m A k c) (h' : Mr w x A' k' c') :
    Calls Try.prog 12 #[mv m A k c, mv x A' k' c'] w fun e w' => e = .returned (.bool (sameM m x)) ∧ Below w.heap.size w w' := by
  have hv := h.v
  have hn := h.n
  have hv' := h'.v
  have hn' := h'.n
  unfold I64 at hv hn hv' hn'
  have hbx : Below w.heap.size w ((w.alloc (.cells #[.int .i64 m.v, .int .i64 m.n, .slice A k c] 25)).alloc (.cells #[.int .i64 x.v, .int .i64 x.n, .slice A' k' c'] 25)) := ((Below.refl w.heap.size w).alloc (Nat.le_refl _) _).alloc (by simp) _
  have hp1 := h.ps.below hbx
  have hp2 := h'.ps.below hbx
  have hk := Nat.le_trans h.le h.cap
  have hk' := Nat.le_trans h'.le h'.cap
  simp only [mv]
  clear h h'
  by_cases h0 : m.v = x.v
  · have t0 : (m.v == x.v) = true := by simpa using h0
    by_cases h1 : m.n = x.n
    · have t1 : (m.n == x.n) = true := by simpa using h1
      have HR := Lib.hid (show sameM m x = sameB m.ps x.ps by simp [sameM, h0, h1])
      clear h0 h1
      go_enter Try.func12, Try.ntmps12
      go_wp2_with fail
      refine (pieces_ _ A A' k k' c c' m.ps x.ps hp1 hp2 hk hk').mono ?_
      rintro e w2 ⟨j, rfl, rfl⟩
      go_wp2
      go_ret
      rw [HR.out]
      exact ⟨by simp, below_drewN hbx j⟩
    · have t1 : (m.n == x.n) = false := by simpa using h1
      have HR := Lib.hid (sameM_no (m := m) (x := x) (.inr (.inl h1)))
      clear h0 h1
      go_enter Try.func12, Try.ntmps12
      go_wp2
      go_ret
      rw [HR.out]
      exact ⟨rfl, hbx⟩
  · have t0 : (m.v == x.v) = false := by simpa using h0
    have HR := Lib.hid (sameM_no (m := m) (x := x) (.inl h0))
    clear h0
    go_enter Try.func12, Try.ntmps12
    go_wp2
    go_ret
    rw [HR.out]
    exact ⟨rfl, hbx⟩
set_option maxRecDepth 100000 in
set_option maxHeartbeats 1000000 in
theorem theirs_ (m : Mp) (A : Option Addr) (k c : Nat) : Calls Try.prog 15 #[mv m A k c] w fun e w' => e = .returned (mv m A k c) ∧ Below w.heap.size w w' := by
  have hb2 : Below w.heap.size w ((w.alloc (.cells #[.int .i64 m.v, .int .i64 m.n, .slice A k c] 25)).alloc (.cells #[.int .i64 m.v, .int .i64 m.n, .slice A k c] 26)) := ((Below.refl w.heap.size w).alloc (Nat.le_refl _) _).alloc (by simp) _
  simp only [mv]
  go_enter Try.func15, Try.ntmps15
  go_wp2
  refine bodyPost_ret (results_m1 rfl rfl (Blk.new (w.alloc (.cells #[.int .i64 m.v, .int .i64 m.n, .slice A k c] 25)) 26 #[.int .i64 m.v, .int .i64 m.n, .slice A k c] (g := w.heap.size + 1) (by simp))) rfl ?_
  exact ⟨rfl, hb2⟩
set_option maxRecDepth 100000 in
set_option maxHeartbeats 1000000 in
theorem ours_ (m : Mp) (A : Option Addr) (k c : Nat) : Calls Try.prog 13 #[mv m A k c] w fun e w' => e = .returned (mv m A k c) ∧ Below w.heap.size w w' := by
  have hb2 : Below w.heap.size w ((w.alloc (.cells #[.int .i64 m.v, .int .i64 m.n, .slice A k c] 26)).alloc (.cells #[.int .i64 m.v, .int .i64 m.n, .slice A k c] 25)) := ((Below.refl w.heap.size w).alloc (Nat.le_refl _) _).alloc (by simp) _
  simp only [mv]
  go_enter Try.func13, Try.ntmps13
  go_wp2
  refine bodyPost_ret (results_r1 rfl rfl (Blk.new (w.alloc (.cells #[.int .i64 m.v, .int .i64 m.n, .slice A k c] 26)) 25 #[.int .i64 m.v, .int .i64 m.n, .slice A k c] (g := w.heap.size + 1) (by simp))) rfl ?_
  exact ⟨rfl, hb2⟩
end
end Sma
end Go.Proofs.Ytncapionioeieaa

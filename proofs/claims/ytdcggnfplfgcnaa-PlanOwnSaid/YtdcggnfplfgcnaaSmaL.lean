/- XSmaG, XSmaH, XSmaJ, XSmaL. -/
import Derived.Test.YtdcggnfplfgcnaaSmaF
set_option linter.all false
namespace Go.Proofs.Ytdcggnfplfgcnaa
open Go.RowKit
namespace Sma

theorem fr_zero {m : Mp} {a : Int} {pre post : List Pc} {p : Pc} (h : At m a pre p post) (hf : pre = [] ∨ p.fr ≠ a) : posI (pos (frB a) 0 m.ps) < 1 := by
  rw [pos_fr h]
  rcases hf with rfl | hf
  · split
    · simp [posI]
    · simp [posI]
  · rw [if_neg hf]; simp [posI]
section
variable (w : World)
end
end Sma
end Go.Proofs.Ytdcggnfplfgcnaa

set_option linter.all false
namespace Go.Proofs.Ytdcggnfplfgcnaa
open Go.RowKit
namespace Sma

section
variable (w : World)
end
end Sma
end Go.Proofs.Ytdcggnfplfgcnaa

set_option linter.all false
namespace Go.Proofs.Ytdcggnfplfgcnaa
open Go.RowKit
namespace Sma

abbrev rmo (m : Mp) (A : Option Addr) (k c : Nat) : Obj := .cells #[.int .i64 m.v, .int .i64 m.n, .slice A k c] 24
abbrev rzo : Obj := .cells #[.int .i64 0, .int .i64 0, .slice none 0 0] 24
theorem right_run {m : Mp} (h0 : 1 ≤ m.v) (h1 : m.v ≤ 1099511627776) (h2 : 1 ≤ m.n) (h3 : m.n ≤ 1024) (h5 : m.ps.length ≤ 16) : m.right = runB 0 m.n m.ps := by simp [Mp.right, h0, h1, h2, h3, h5]
theorem right_empty {m : Mp} (h : m.ps.length < 1) (h2 : 1 ≤ m.n) : m.right = false := by
  have e : m.ps = [] := List.eq_nil_of_length_eq_zero (by omega)
  refine right_no (.inr (.inr (.inr (.inr ?_))))
  rw [e]
  simp [runB]
  omega
section
variable (w : World)
set_option maxRecDepth 100000 in
set_option maxHeartbeats 2000000 in
theorem rright_ (m : Mp) (A : Option Addr) (k c : Nat) (h : Mr w m A k c) : Calls Try.prog 39 #[mv m A k c] w fun e w' => e = .returned (.bool m.right) ∧ Below w.heap.size w w' := by
  have hv := h.v
  have hn := h.n
  unfold I64 at hv hn
  have hbx := (Below.refl w.heap.size w).alloc (Nat.le_refl _) (rmo m A k c)
  have hac := Blk.new w 24 #[.int .i64 m.v, .int .i64 m.n, .slice A k c] rfl
  have hp1 := h.ps.alloc (rmo m A k c)
  have hkl := h.len
  have hk := Nat.le_trans h.le h.cap
  have Hl := Lib.hid hkl
  simp only [mv]
  by_cases h0 : m.v < 1
  · have HB := Lib.hid (right_no (m := m) (.inl (by omega)))
    clear h hkl hp1
    go_enter Try.func39, Try.ntmps39
    go_wp2
    go_ret
    rw [HB.out]
    exact ⟨rfl, hbx⟩
  by_cases h1 : 1099511627776 < m.v
  · have HB := Lib.hid (right_no (m := m) (.inr (.inl (by omega))))
    clear h hkl hp1
    go_enter Try.func39, Try.ntmps39
    go_wp2
    go_ret
    rw [HB.out]
    exact ⟨rfl, hbx⟩
  by_cases h2 : m.n < 1
  · have HB := Lib.hid (right_no (m := m) (.inr (.inr (.inl (by simp [volB]; omega)))))
    clear h hkl hp1
    go_enter Try.func39, Try.ntmps39
    go_wp2
    go_ret
    rw [HB.out]
    exact ⟨rfl, hbx⟩
  by_cases h3 : 1024 < m.n
  · have HB := Lib.hid (right_no (m := m) (.inr (.inr (.inl (by simp [volB]; omega)))))
    clear h hkl hp1
    go_enter Try.func39, Try.ntmps39
    go_wp2
    go_ret
    rw [HB.out]
    exact ⟨rfl, hbx⟩
  by_cases h4 : k < 1
  · have HB := Lib.hid (right_empty (m := m) (by omega) (by omega))
    have h4' : (k : Int) < 1 := by omega
    clear h hkl hp1
    go_enter Try.func39, Try.ntmps39
    go_wp2
    go_ret
    rw [HB.out]
    exact ⟨rfl, hbx⟩
  by_cases h5 : 16 < k
  · have HB := Lib.hid (right_no (m := m) (.inr (.inr (.inr (.inl (by omega))))))
    have h5' : (16 : Int) < (k : Int) := by omega
    clear h hkl hp1
    go_enter Try.func39, Try.ntmps39
    go_wp2
    go_ret
    rw [HB.out]
    exact ⟨rfl, hbx⟩
  have h4' : ¬ (k : Int) < 1 := by omega
  have h5' : ¬ (16 : Int) < (k : Int) := by omega
  have HB0 := Lib.hid (right_run (m := m) (by omega) (by omega) (by omega) (by omega) (by omega))
  generalize hR : runB 0 m.n m.ps = R at *
  clear h hkl
  go_enter Try.func39, Try.ntmps39
  go_wp2_with fail
  generalize (w.alloc (rmo m A k c)) = w1 at *
  go_loopw [3, 4] (fun ev iv wr => ∃ (i : Nat) (z : Int), i ≤ k ∧ iv = .int .i64 (i : Int) ∧ ev = .int .i64 z ∧ I64 z ∧ runB z m.n (m.ps.drop i) = R ∧ Below w.heap.size w wr ∧ Below w1.heap.size w1 wr) (fun _ iv _ => k - (intOf iv).toNat)
  case atStart => exact ⟨0, 0, Nat.zero_le _, rfl, rfl, by unfold I64; omega, hR, hbx, Below.refl _ _⟩
  case round =>
    obtain ⟨i, z, hi, rfl, rfl, hz, hL, hb, hb1⟩ := hrel
    clear hR
    have hac' := hac.keep hb1
    obtain ⟨d0, d1, d2, -, -, -⟩ := cells3 hac'
    by_cases hlt : i < k
    · have hil : (i : Int) < (k : Int) := by omega
      have hi0 : (0 : Int) ≤ (i : Int) := by omega
      obtain ⟨b, o, rfl, p, hx, fp, c0, c1, c2⟩ := (hp1.below hb1).at_ hlt
      obtain ⟨ff, fe, fn⟩ := fp.all
      rw [drop_of hx] at hL
      have hpc := Blk.new wr 72 #[.int .i64 p.fr, .int .i64 p.en, .int .i64 p.nd] rfl
      have hba : Below w.heap.size w (wr.alloc (po p)) := hb.alloc hb.size _
      have hba1 : Below w1.heap.size w1 (wr.alloc (po p)) := hb1.alloc hb1.size _
      unfold I64 at hz
      clear hx hac hac' hp1
      by_cases h6 : p.fr = z
      · have t0 : (p.fr != z) = false := by simpa using h6
        by_cases h7 : p.en ≤ p.fr
        · have HB := Lib.hid (run_bad hL (.inr (.inl (by omega))))
          clear hL h6
          go_wp2
          go_ret
          rw [HB0.out, HB.out]
          exact ⟨rfl, hba⟩
        · cases h8 : ndB p.nd with
          | false =>
            have HB := Lib.hid (run_bad hL (.inr (.inr h8)))
            clear hL h6
            go_wp2_with fail
            refine (rnode_ _ p.nd fp.nd).mono ?_
            rw [h8]
            rintro e w2 ⟨rfl, rfl⟩
            go_wp2
            go_ret
            rw [HB0.out, HB.out]
            exact ⟨rfl, hba⟩
          | true =>
            have HL := Lib.hid (run_next hL h6 (by omega) h8)
            clear hL h6
            go_wp2_with fail
            refine (rnode_ _ p.nd fp.nd).mono ?_
            rw [h8]
            rintro e w2 ⟨rfl, rfl⟩
            go_wp2
            go_roundw
            case rel => exact ⟨i + 1, p.en, by omega, by go_num, rfl, fp.en, HL.out, hba, hba1⟩
            case measure => simp [intOf]; omega
      · have t0 : (p.fr != z) = true := by simpa using h6
        have HB := Lib.hid (run_bad hL (.inl h6))
        clear hL h6
        go_wp2
        go_ret
        rw [HB0.out, HB.out]
        exact ⟨rfl, hba⟩
    · have hin : (k : Int) ≤ (i : Int) := by omega
      have HB := Lib.hid (show R = decide (z = m.n) by rw [← hL, drop_end Hl.out (by omega)]; rfl)
      clear hL
      go_wp2
      go_ret
      rw [HB0.out, HB.out]
      exact ⟨by simp [Bool.beq_eq_decide_eq], hb⟩
set_option maxRecDepth 100000 in
set_option maxHeartbeats 2000000 in
theorem rfind_ (m : Mp) (A : Option Addr) (k c : Nat) (h : Mr w m A k c) (a : Int) (ha : I64 a) : Calls Try.prog 54 #[mv m A k c, .int .i64 a] w fun e w' => e = .returned (.tuple #[.int .i64 (findA m a).1, .int .i64 (findA m a).2]) ∧ Below w.heap.size w w' := by
  have hbx := (Below.refl w.heap.size w).alloc (Nat.le_refl _) (rmo m A k c)
  have hm1 := h.alloc (rmo m A k c)
  have hbk := Blk.new w 24 #[.int .i64 m.v, .int .i64 m.n, .slice A k c] rfl
  have hk := Nat.le_trans h.le h.cap
  have Hl := Lib.hid h.len
  unfold I64 at ha
  simp only [mv]
  clear h
  cases hr : m.right with
  | false =>
    rw [find_no hr]
    go_enter Try.func54, Try.ntmps54
    go_wp2_with fail
    refine (rright_ _ m A k c hm1).mono ?_
    rw [hr]
    rintro e w2 ⟨rfl, hb2⟩
    go_wp2
    go_ret2
    exact ⟨rfl, below_step hbx hb2 (by omega)⟩
  | true =>
    generalize hpo : pos (inB a) 0 m.ps = q
    have Hf := Lib.hid (find_posI hr hpo)
    go_enter Try.func54, Try.ntmps54
    go_wp2_with fail
    refine (rright_ _ m A k c hm1).mono ?_
    rw [hr]
    rintro e w2 ⟨rfl, hb2⟩
    have hm2 := hm1.below hb2
    have hB2 := below_step hbx hb2 (by omega)
    obtain ⟨d0, d1, d2, -, -, -⟩ := cells3 (hbk.keep hb2)
    clear hm1 hbk
    have hps := hm2.ps
    go_wp2_with fail
    go_loopw [6] (fun iv wr => ∃ i : Nat, i ≤ k ∧ iv = .int .i64 (i : Int) ∧ pos (inB a) i (m.ps.drop i) = q ∧ wr = w2) (fun iv _ => k - (intOf iv).toNat)
    case atStart => exact ⟨0, Nat.zero_le _, rfl, hpo, rfl⟩
    case round =>
      obtain ⟨i, hi, rfl, hL, rfl⟩ := hrel
      clear hpo
      by_cases hlt : i < k
      · have hil : (i : Int) < (k : Int) := by omega
        have hi0 : (0 : Int) ≤ (i : Int) := by omega
        obtain ⟨b, o, rfl, p, hx, fp, c0, c1, c2⟩ := hps.at_ hlt
        obtain ⟨ff, fe, fn⟩ := fp.all
        rw [drop_of hx] at hL
        clear hx hps hm2
        by_cases g0 : p.fr ≤ a
        · by_cases g1 : a < p.en
          · have HB := Lib.hid (pos_yes hL (in_yes g0 g1))
            clear hL
            go_wp2
            go_ret2
            rw [Hf.out, HB.out]
            exact ⟨rfl, hB2⟩
          · have HL := Lib.hid (pos_next hL (in_no (.inr (by omega))))
            clear hL
            go_wp2
            go_roundw
            case rel => exact ⟨i + 1, by omega, by go_num, HL.out, by first | rfl | trivial⟩
            case measure => simp [intOf]; omega
        · have HL := Lib.hid (pos_next hL (in_no (.inl (by omega))))
          clear hL
          go_wp2
          go_roundw
          case rel => exact ⟨i + 1, by omega, by go_num, HL.out, by first | rfl | trivial⟩
          case measure => simp [intOf]; omega
      · have hin : (k : Int) ≤ (i : Int) := by omega
        have HB := Lib.hid (show q = none by rw [← hL, drop_end Hl.out (by omega)]; rfl)
        clear hL
        go_wp2
        go_ret2
        rw [Hf.out, HB.out]
        exact ⟨rfl, hB2⟩
set_option maxRecDepth 100000 in
set_option maxHeartbeats 2000000 in
/-- The node of a block that a map has. -/
theorem rnodeOf_ (m : Mp) (A : Option Addr) (k c : Nat) (h : Mr w m A k c) (hr : m.right = true) (a : Int) (h0 : 0 ≤ a) (h1 : a < m.n) : Calls Try.prog 31 #[mv m A k c, .int .i64 a] w fun e w' => e = .returned (.int .i64 (nodeL a m.ps)) ∧ Below w.heap.size w w' := by
  have hn := h.n
  unfold I64 at hn
  have hbx := (Below.refl w.heap.size w).alloc (Nat.le_refl _) (rmo m A k c)
  have hm1 := h.alloc (rmo m A k c)
  have hbk := Blk.new w 24 #[.int .i64 m.v, .int .i64 m.n, .slice A k c] rfl
  obtain ⟨pre, p, post, hat⟩ := at_of hr h0 h1
  obtain ⟨i, hi⟩ : ∃ i, pre.length = i := ⟨_, rfl⟩
  have Hf := Lib.hid (show findA m a = ((i : Int), 0) by rw [find_at hr hat, hi])
  have Hget := Lib.hid (show m.ps[i]? = some p by rw [← hi]; exact hat.get)
  have Hn := Lib.hid hat.node
  clear hat hi
  simp only [mv]
  clear h
  go_enter Try.func31, Try.ntmps31
  go_wp2_with fail
  refine (rfind_ _ m A k c hm1 a (by unfold I64; omega)).mono ?_
  rw [Hf.out]
  rintro e w2 ⟨rfl, hb2⟩
  have hm2 := hm1.below hb2
  have hB2 := below_step hbx hb2 (by omega)
  obtain ⟨d0, d1, d2, -, -, -⟩ := cells3 (hbk.keep hb2)
  obtain ⟨b, o, rfl, hik, fp, p0, p1, p2⟩ := at_cells hm2 Hget.out
  have hi0 : (0 : Int) ≤ (i : Int) := by omega
  have hik' : (i : Int) < (k : Int) := by omega
  clear hm1 hbk hm2
  simp only
  go_wp2
  go_ret
  rw [Hn.out]
  exact ⟨rfl, hB2⟩
end
end Sma
end Go.Proofs.Ytdcggnfplfgcnaa

set_option linter.all false
namespace Go.Proofs.Ytdcggnfplfgcnaa
open Go.RowKit
namespace Sma

/-- The same pieces. -/
def sameB : List Pc → List Pc → Bool
  | [], [] => true
  | p :: l, q :: r => decide (p = q) && sameB l r
  | _, _ => false
theorem sameB_refl : ∀ l : List Pc, sameB l l = true
  | [] => rfl
  | p :: l => by simp [sameB, sameB_refl l]
theorem sameB_len : ∀ {l r : List Pc}, l.length ≠ r.length → sameB l r = false
  | [], [], h => by simp at h
  | [], q :: r, h => rfl
  | p :: l, [], h => rfl
  | p :: l, q :: r, h => by rw [sameB, sameB_len (by simpa using h), Bool.and_false]
theorem sameB_drop {l r : List Pc} {k : Nat} {p q : Pc} (hp : l[k]? = some p) (hq : r[k]? = some q) : sameB (l.drop k) (r.drop k) = (decide (p = q) && sameB (l.drop (k + 1)) (r.drop (k + 1))) := by
  rw [drop_of hp, drop_of hq]; rfl
set_option maxRecDepth 100000 in
theorem neq_pc (a b c a' b' c' : Int) (w : World) : (binOp .neq 72 (.agg #[.int .i64 a, .int .i64 b, .int .i64 c]) (.agg #[.int .i64 a', .int .i64 b', .int .i64 c'])).run Try.prog w = .ok (.bool (!decide (a = a' ∧ b = b' ∧ c = c'))) w := by
  have hu := Try.underlying72
  obtain ⟨fs, hf⟩ : ∃ fs, Try.prog.fieldsOf 72 = fs := ⟨_, rfl⟩
  have hf' := hf
  unfold Program.fieldsOf at hf'
  rw [hu] at hf'
  simp only at hf'
  subst hf'
  have hi : Try.prog.underlying 3 = some (.int .i64) := Try.underlying3
  have he : (Op.equalIn 10000 72 (.agg #[.int .i64 a, .int .i64 b, .int .i64 c]) (.agg #[.int .i64 a', .int .i64 b', .int .i64 c'])).run Try.prog w = .ok (decide (a = a' ∧ b = b' ∧ c = c')) w := by
    rw [run_equalIn_struct w 9999 72 _ _ (by rw [hf, hu]) (by kernel_rfl), hf]
    have q : ∀ z y, (Op.equalIn 9999 3 (.int .i64 z) (.int .i64 y)).run Try.prog w = .ok (decide (z = y)) w := fun z y => by
      rw [run_equalIn_int w 9998 3 .i64 .i64 z y hi]; simp [Bool.beq_eq_decide_eq]
    by_cases h0 : a = a'
    · by_cases h1 : b = b'
      · by_cases h2 : c = c'
        · simp [Op.eqFields, go_sem, q, h0, h1, h2]
        · simp [Op.eqFields, go_sem, q, h0, h1, h2]
      · simp [Op.eqFields, go_sem, q, h0, h1]
    · simp [Op.eqFields, go_sem, q, h0]
  simp only [binOp]
  simp [Op.equal, Op.maxDepth, he]
theorem pc_eq {p q : Pc} : p = q ↔ p.fr = q.fr ∧ p.en = q.en ∧ p.nd = q.nd := by
  constructor
  · rintro rfl; exact ⟨rfl, rfl, rfl⟩
  · obtain ⟨a, b, c⟩ := p
    obtain ⟨a', b', c'⟩ := q
    rintro ⟨h1, h2, h3⟩
    simp only at h1 h2 h3
    subst h1 h2 h3
    rfl
theorem neq_p (p q : Pc) (w : World) : (binOp .neq 72 (.agg #[.int .i64 p.fr, .int .i64 p.en, .int .i64 p.nd]) (.agg #[.int .i64 q.fr, .int .i64 q.en, .int .i64 q.nd])).run Try.prog w = .ok (.bool (!decide (p = q))) w := by
  have e : decide (p.fr = q.fr ∧ p.en = q.en ∧ p.nd = q.nd) = decide (p = q) := decide_eq_decide.2 pc_eq.symm
  rw [← e]
  exact neq_pc _ _ _ _ _ _ w
def sameM (m x : Mp) : Bool := decide (m.v = x.v) && decide (m.n = x.n) && sameB m.ps x.ps
theorem sameM_refl (m : Mp) : sameM m m = true := by simp [sameM, sameB_refl]
theorem sameM_no {m x : Mp} (h : ¬ m.v = x.v ∨ ¬ m.n = x.n ∨ sameB m.ps x.ps = false) : sameM m x = false := by
  rcases h with h | h | h <;> simp [sameM, h]
section
variable (w : World)
set_option maxRecDepth 100000 in
set_option maxHeartbeats 2000000 in
theorem pieces_ (A A' : Option Addr) (n n' c c' : Nat) (l r : List Pc) (h : Ps w A n l) (h' : Ps w A' n' r) (hn : n ≤ 9223372036854775807) (hn' : n' ≤ 9223372036854775807) :
    Calls Try.prog 33 #[.slice A n c, .slice A' n' c'] w fun e w' => ∃ k, e = .returned (.bool (sameB l r)) ∧ w' = w.drewN k := by
  by_cases hl : n = n'
  · subst hl
    have Hl := Lib.hid h.len
    have Hr := Lib.hid h'.len
    have t0 : ((n : Int) != (n : Int)) = false := by simp
    go_enter Try.func33, Try.ntmps33
    go_wp2_with fail
    go_loopw [5] (fun iv wr => ∃ i : Nat, i ≤ n ∧ iv = .int .i64 (i : Int) ∧ sameB (l.drop i) (r.drop i) = sameB l r ∧ ∃ k, wr = w.drewN k) (fun iv _ => n - (intOf iv).toNat)
    case atStart => exact ⟨0, Nat.zero_le _, rfl, rfl, 0, rfl⟩
    case round =>
      obtain ⟨i, hi, rfl, hL, k, rfl⟩ := hrel
      by_cases hlt : i < n
      · have hil : (i : Int) < (n : Int) := by omega
        have hi0 : (0 : Int) ≤ (i : Int) := by omega
        obtain ⟨b, o, rfl, p, hp, fp, c0, c1, c2⟩ := h.at_ hlt
        obtain ⟨b', o', rfl, q, hq, fq, d0, d1, d2⟩ := h'.at_ hlt
        rw [sameB_drop hp hq] at hL
        have hne := fun W => neq_p p q W
        clear hp hq h h'
        by_cases he : p = q
        · have HL := Lib.hid (show sameB (l.drop (i + 1)) (r.drop (i + 1)) = sameB l r by rw [← hL]; simp [he])
          rw [show (!decide (p = q)) = false by simp [he]] at hne
          clear hL he
          go_wp2_with fail
          go_quiet (fail)
          go_wp2
          go_roundw
          case rel => exact ⟨i + 1, by omega, by go_num, HL.out, _, rfl⟩
          case measure => simp [intOf]; omega
        · have HB := Lib.hid (show sameB l r = false by rw [← hL]; simp [he])
          rw [show (!decide (p = q)) = true by simp [he]] at hne
          clear hL he
          go_wp2_with fail
          go_quiet (fail)
          go_wp2
          go_ret
          rw [HB.out]
          exact ⟨k + nq, rfl, by simp⟩
      · have hin : (n : Int) ≤ (i : Int) := by omega
        have HB := Lib.hid (show sameB l r = true by rw [← hL, drop_end Hl.out (by omega), drop_end Hr.out (by omega)]; rfl)
        clear hL
        go_wp2
        go_ret
        rw [HB.out]
        exact ⟨k, rfl, rfl⟩
  · have HB := Lib.hid (show sameB l r = false from sameB_len (by have := h.len; have := h'.len; omega))
    have t0 : ((n : Int) != (n' : Int)) = true := by simp; omega
    clear hl h h'
    go_enter Try.func33, Try.ntmps33
    go_wp2
    go_ret
    rw [HB.out]
    exact ⟨0, rfl, rfl⟩
end
end Sma
end Go.Proofs.Ytdcggnfplfgcnaa

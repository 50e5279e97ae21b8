/- Layer 6: the document's Put, At, Since; whether lists are the same. -/
import Derived.Test.YtiehhmchokbafaaEmpQ
import Derived.Laws.StructEq
set_option linter.all false
namespace Go.Proofs.Ytiehhmchokbafaa
open Go.RowKit

/-- What At is asked for, of any list. -/
def atR (l : List Ext) (o : Int) : Option (Int × Int) := if rightB l then atL l o else none

section
variable (w : World)
theorem neq_ext (a b c d : Int) (w : World) : (binOp .neq 24 (.agg #[.int .i64 a, .int .i64 b, .int .i64 c, .int .i64 d]) (.agg #[.int .i64 a, .int .i64 b, .int .i64 c, .int .i64 d])).run Try.prog w = .ok (.bool false) w := by
  have hu := Try.underlying24
  obtain ⟨fs, hf⟩ : ∃ fs, Try.prog.fieldsOf 24 = fs := ⟨_, rfl⟩
  have hf' := hf
  unfold Program.fieldsOf at hf'
  rw [hu] at hf'
  simp only at hf'
  subst hf'
  have hi : Try.prog.underlying 3 = some (.int .i64) := Try.underlying3
  have he : (Op.equalIn 10000 24 (.agg #[.int .i64 a, .int .i64 b, .int .i64 c, .int .i64 d]) (.agg #[.int .i64 a, .int .i64 b, .int .i64 c, .int .i64 d])).run Try.prog w = .ok true w := by
    rw [run_equalIn_struct w 9999 24 _ _ (by rw [hf, hu]) (by kernel_rfl), hf]
    have q : ∀ z, (Op.equalIn 9999 3 (.int .i64 z) (.int .i64 z)).run Try.prog w = .ok true w := fun z => by
      rw [run_equalIn_int w 9998 3 .i64 .i64 z z hi]; simp
    simp [Op.eqFields, go_sem, q]
  simp only [binOp]
  simp [Op.equal, Op.maxDepth, he]
/-- Lists that are the same. -/
theorem at_pair {w : World} {A B : Option Addr} {n m : Nat} {l : List Ext} (ha : Es w A n l) (hb : Es w B m l) {k : Nat} (hk : k < n) :
    ∃ p o q r x, A = some ⟨p, o, none⟩ ∧ B = some ⟨q, r, none⟩ ∧ Fit x ∧ w.cell? ⟨p, o + k * 4, none⟩ = some (.int .i64 x.off) ∧ w.cell? ⟨p, o + k * 4 + 1, none⟩ = some (.int .i64 x.len) ∧ w.cell? ⟨p, o + k * 4 + 2, none⟩ = some (.int .i64 x.phys) ∧ w.cell? ⟨p, o + k * 4 + 3, none⟩ = some (.int .i64 x.birth) ∧
      w.cell? ⟨q, r + k * 4, none⟩ = some (.int .i64 x.off) ∧ w.cell? ⟨q, r + k * 4 + 1, none⟩ = some (.int .i64 x.len) ∧ w.cell? ⟨q, r + k * 4 + 2, none⟩ = some (.int .i64 x.phys) ∧ w.cell? ⟨q, r + k * 4 + 3, none⟩ = some (.int .i64 x.birth) := by
  have hnm : n = m := ha.len.trans hb.len.symm
  obtain ⟨p, o, e, x, hx, fx, c0, c1, c2, c3⟩ := ha.at_ hk
  obtain ⟨q, r, e', y, hy, fy, d0, d1, d2, d3⟩ := hb.at_ (k := k) (by omega)
  rw [hx] at hy
  injection hy with hy
  subst hy
  exact ⟨p, o, q, r, x, e, e', fx, c0, c1, c2, c3, d0, d1, d2, d3⟩
set_option maxRecDepth 100000 in
set_option maxHeartbeats 2000000 in
theorem same_ (A B : Option Addr) (n m c d : Nat) (l : List Ext) (ha : Es w A n l) (hb : Es w B m l) (hn : n ≤ 9223372036854775807) :
    Calls Try.prog 21 #[.slice A n c, .slice B m d] w fun e w' => ∃ k, e = .returned (.bool true) ∧ w' = w.drewN k := by
  have hnm : m = n := hb.len.trans ha.len.symm
  subst hnm
  go_enter Try.func21, Try.ntmps21
  go_wp2_with fail
  go_loopw [5] (fun iv wr => ∃ (k j : Nat), k ≤ m ∧ iv = .int .i64 (k : Int) ∧ wr = w.drewN j) (fun iv _ => m - (intOf iv).toNat)
  case atStart => exact ⟨0, 0, Nat.zero_le _, rfl, rfl⟩
  case round =>
    obtain ⟨k, j, hk, rfl, rfl⟩ := hrel
    by_cases hlt : k < m
    · have hil : (k : Int) < (m : Int) := by omega
      have hk0 : (0 : Int) ≤ (k : Int) := by omega
      obtain ⟨p, o, q, r, x, rfl, rfl, fx, c0, c1, c2, c3, d0, d1, d2, d3⟩ := at_pair ha hb hlt
      clear ha hb
      have hq := fun W => neq_ext x.off x.len x.phys x.birth W
      go_wp2_with fail
      go_quiet (fail)
      go_wp2
      go_roundw
      case rel => exact ⟨k + 1, _, by omega, by go_num, rfl⟩
      case measure => simp [intOf]; omega
    · have hin : (m : Int) ≤ (k : Int) := by omega
      go_wp2
      go_ret
      exact ⟨j, rfl, rfl⟩
theorem at_ (A : Option Addr) (n c : Nat) (l : List Ext) (o : Int) (h : Es w A n l) (hn : n ≤ 9223372036854775807) (ho : I64 o) :
    Calls Try.prog 38 #[.slice A n c, .int .i64 o] w fun e w' => e = .returned (.tuple (atV (atR l o))) ∧ Below w.heap.size w w' := by
  unfold atR
  cases hr : rightB l with
  | false => exact at_no w A n c l o h hn hr
  | true => exact at_ok w A n c l o h hr ho
set_option maxRecDepth 100000 in
set_option maxHeartbeats 2000000 in
theorem rat_ (A : Option Addr) (n c : Nat) (l : List Ext) (o : Int) (h : Es w A n l) (hn : n ≤ 9223372036854775807) (ho : I64 o) :
    Calls Try.prog 20 #[.slice A n c, .int .i64 o] w fun e w' => e = .returned (.tuple (atV (atR l o))) ∧ Below w.heap.size w w' := by
  cases hr : rightB l with
  | false =>
    have Ha := Lib.hid (show atR l o = none by unfold atR; rw [hr]; rfl)
    go_enter Try.func20, Try.ntmps20
    go_wp2_with fail
    refine (rright_ _ A n c l h hn).mono ?_
    rw [hr]
    rintro e w2 ⟨rfl, hb2⟩
    go_wp2
    go_ret3
    rw [Ha.out]
    exact ⟨rfl, hb2⟩
  | true =>
    have hl := (right_is.1 hr).1
    have hml := mays_right hr
    have hlen := h.len
    have hsh := right_short hr
    have hn2 : n ≤ 1024 := by omega
    clear hlen hsh
    cases hm : rangeB o 1 with
    | false =>
      have Ha := Lib.hid (show atR l o = none by
        unfold atR
        rw [hr, if_pos rfl]
        refine at_out hl fun e => ?_
        rw [range_is.2 ⟨e.1, by omega, by omega⟩] at hm
        cases hm)
      go_enter Try.func20, Try.ntmps20
      go_wp2_with fail
      refine (rright_ _ A n c l h hn).mono ?_
      rw [hr]
      rintro e w2 ⟨rfl, hb2⟩
      go_wp2_with fail
      refine (rrange_ _ o 1 ho (by unfold I64; omega)).mono ?_
      rw [hm]
      rintro e w3 ⟨rfl, rfl⟩
      go_wp2
      go_ret3
      rw [Ha.out]
      exact ⟨rfl, hb2⟩
    | true =>
      have hok := range_is.1 hm
      have hw1 : IntKind.i64.wrap (o + 1) = o + 1 := by rw [IntKind.wrap_i64]; omega
      rcases part_one (i := o) hl with ⟨ha, hp⟩ | ⟨p, b, ha, hp⟩
      · have Ha := Lib.hid (show atR l o = none by unfold atR; rw [hr, if_pos rfl]; exact ha)
        have Hp := Lib.hid hp
        clear ha hp
        go_enter Try.func20, Try.ntmps20
        go_wp2_with fail
        refine (rright_ _ A n c l h hn).mono ?_
        rw [hr]
        rintro e w2 ⟨rfl, hb2⟩
        go_wp2_with fail
        refine (rrange_ _ o 1 ho (by unfold I64; omega)).mono ?_
        rw [hm]
        rintro e w3 ⟨rfl, rfl⟩
        go_wp2_with fail
        refine (rpart_ w2 A n c l o (o + 1) ho (by unfold I64; omega) (h.below hb2) hml (by omega)).mono ?_
        rw [Hp.out]
        rintro e w4 ⟨v, m, rfl, ho4, -, -, hb4⟩
        have hm0 : m = 0 := eo_len ho4
        subst hm0
        obtain ⟨A4, c4, rfl, -, -, -⟩ := own_form ho4
        go_wp2
        go_ret3
        rw [Ha.out]
        exact ⟨rfl, below_step hb2 hb4 (Nat.le_refl _)⟩
      · have Ha := Lib.hid (show atR l o = some (p, b) by unfold atR; rw [hr, if_pos rfl]; exact ha)
        have Hp := Lib.hid hp
        clear ha hp
        go_enter Try.func20, Try.ntmps20
        go_wp2_with fail
        refine (rright_ _ A n c l h hn).mono ?_
        rw [hr]
        rintro e w2 ⟨rfl, hb2⟩
        go_wp2_with fail
        refine (rrange_ _ o 1 ho (by unfold I64; omega)).mono ?_
        rw [hm]
        rintro e w3 ⟨rfl, rfl⟩
        go_wp2_with fail
        refine (rpart_ w2 A n c l o (o + 1) ho (by unfold I64; omega) (h.below hb2) hml (by omega)).mono ?_
        rw [Hp.out]
        rintro e w4 ⟨v, m, rfl, ho4, hm4, -, hb4⟩
        have hm0 : m = 1 := eo_len ho4
        subst hm0
        obtain ⟨A4, c4, rfl, -, -, -⟩ := own_form ho4
        obtain ⟨q, r, rfl, x, hx, fx, c0, c1, c2, c3⟩ := (eo_es ho4 (mays_fit hm4)).at_ (k := 0) (by omega)
        simp only [List.getElem?_cons_zero, Option.some.injEq] at hx
        subst hx
        simp only [Nat.zero_mul, Nat.add_zero] at c0 c1 c2 c3
        have hB4 := below_step hb2 hb4 (Nat.le_refl _)
        clear ho4 hm4
        go_wp2_with fail
        go_quiet (fail)
        go_wp2
        go_ret3
        rw [Ha.out]
        exact ⟨rfl, below_drewN hB4 _⟩
end
end Go.Proofs.Ytiehhmchokbafaa

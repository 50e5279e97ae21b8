/- Layer 9: the document's Young, Ops. -/
import Derived.Test.YtfdfjnepfgabaaaDelU
set_option linter.all false
namespace Go.Proofs.Ytfdfjnepfgabaaa
open Go.RowKit

theorem runs_no {y : Nat → Bool} {i : Nat} (h : y i = false) : runsTo y (i + 1) = runsTo y i := by rw [runsTo_succ, h]; rfl
theorem runs_new {y : Nat → Bool} {i : Nat} (h : y i = true) (hp : ∀ j, i = j + 1 → y j = false) : runsTo y (i + 1) = runsTo y i ++ [((i : Int), (i : Int) + 1)] := by
  rw [runsTo_succ, h, if_pos rfl]
  cases (runsTo y i).getLast? with
  | none => rfl
  | some q =>
    simp only
    cases i with
    | zero => rfl
    | succ j => simp only; rw [if_neg (by rw [hp j rfl]; simp)]
theorem runs_more {y : Nat → Bool} {j : Nat} (h : y (j + 1) = true) (hp : y j = true) : ∃ p q, runsTo y (j + 1) = p ++ [q] ∧ q.2 = ((j + 1 : Nat) : Int) ∧ runsTo y (j + 1 + 1) = p ++ [(q.1, q.2 + 1)] := by
  obtain ⟨p, q, e, e2⟩ := (runs_inv y (j + 1)).last j rfl hp
  refine ⟨p, q, e, e2, ?_⟩
  rw [runsTo_succ y (j + 1), h, if_pos rfl, e]
  simp [hp]
theorem runs_len (y : Nat → Bool) (n : Nat) : (runsTo y n).length ≤ n := by
  rw [← pushN_runs]
  exact Nat.le_trans (pushN_len _) (yl_len y n)
section
variable (w : World)
set_option maxRecDepth 100000 in
set_option maxHeartbeats 4000000 in
theorem rYoung_ (A B : Option Addr) (n c m d : Nat) (a b : List Ext) (gen : Int) (ha : Es w A n a) (hb : Es w B m b) (hn : n ≤ 9223372036854775807) (hm : m ≤ 9223372036854775807) :
    Calls Try.prog 14 #[.slice A n c, .slice B m d, .int .i64 gen] w fun e w' => AnsP w w' e (yoE a b) (yoL a b gen) := by
  obtain ⟨i0, hi0, hz0, hz1, hz2⟩ := piece_info
  have Hz := Lib.hid hz2
  clear hz2
  have hno : rightB a = false ∨ rightB b = false → yoE a b = 1 ∧ yoL a b gen = [] := fun h => by
    unfold yoE yoL
    rcases h with h | h <;> simp [h]
  go_enter Try.func14, Try.ntmps14
  go_wp2_with fail
  refine (rright_ _ A n c a ha hn).mono ?_
  cases hra : rightB a with
  | false =>
    have HN := Lib.hid (hno (.inl hra))
    clear hno
    rintro e w2 ⟨rfl, hb2⟩
    go_wp2
    go_ret2
    rw [HN.out.1, HN.out.2]
    exact ⟨none, 0, 0, rfl, World.ownsRow_nil _ _ _ _, hb2⟩
  | true =>
    rintro e w2 ⟨rfl, hb2⟩
    go_wp2_with fail
    refine (rright_ _ B m d b (hb.below hb2) hm).mono ?_
    cases hrb : rightB b with
    | false =>
      have HN := Lib.hid (hno (.inr hrb))
      clear hno
      rintro e w3 ⟨rfl, hb3⟩
      have hB3 := below_step hb2 hb3 (Nat.le_refl _)
      go_wp2
      go_ret2
      rw [HN.out.1, HN.out.2]
      exact ⟨none, 0, 0, rfl, World.ownsRow_nil _ _ _ _, hB3⟩
    | true =>
      clear hno
      rintro e w3 ⟨rfl, hb3⟩
      have hB3 := below_step hb2 hb3 (Nat.le_refl _)
      go_wp2_with fail
      refine (ryoung_ _ A B n c m d a b gen (ha.below hB3) (hb.below hB3) hra hrb).mono ?_
      have HE := Lib.hid (show yoE a b = 0 by unfold yoE; rw [hra, hrb]; rfl)
      have HL := Lib.hid (show yoL a b gen = runsTo (youngF a b gen) 1024 by unfold yoL; rw [hra, hrb]; rfl)
      generalize youngF a b gen = y at *
      rintro e w4 ⟨gy, rfl, hk4, hg4, hb4⟩
      have hB4 := below_step hB3 hb4 (Nat.le_refl _)
      have hs3 := hB3.size
      have hgn : w.heap.size ≤ gy := by omega
      clear hb2 hb3 hb4 hB3 hg4 hs3
      go_wp2_with fail
      go_loopw [8, 10] (fun ov iv wr => ∃ (i k : Nat), i ≤ 1024 ∧ iv = .int .i64 (i : Int) ∧ Po wr w.heap.size ov k (runsTo y i) ∧ Blk wr gy 4 (tva 1024 y) ∧ Below w.heap.size w wr) (fun _ iv _ => 1024 - (intOf iv).toNat)
      case atStart => exact ⟨0, 0, Nat.zero_le _, rfl, World.ownsRow_nil _ _ _ _, hk4, hB4⟩
      case round =>
        obtain ⟨i, k, hi, rfl, hO, hk, hbb⟩ := hrel
        clear hk4 hB4
        have hbs := hbb.size
        have hkl := po_len hO
        have hrl := runs_len y i
        have hk1 : k ≤ 1024 := by omega
        have Hkl := Lib.hid hkl
        clear hkl hrl
        by_cases hlt : i < 1024
        · have hiI : (i : Int) < 1024 := by omega
          have hi0' : (0 : Int) ≤ (i : Int) := by omega
          have q0 : wr.cell? ⟨gy, i, none⟩ = some (.bool (y i)) := hk.cell (tva_at _ hlt)
          cases hyi : y i with
          | false =>
            rw [hyi] at q0
            have Hru := Lib.hid (runs_no hyi)
            obtain ⟨A8, c8, rfl, -, -, -⟩ := own_form hO
            go_wp2
            go_roundw
            case rel => exact ⟨i + 1, k, by omega, by go_num, by rw [Hru.out]; exact hO, hk, hbb⟩
            case measure => simp [intOf]; omega
          | true =>
            rw [hyi] at q0
            have hwi : IntKind.i64.wrap ((i : Int) + 1) = (i : Int) + 1 := by rw [IntKind.wrap_i64]; omega
            have hrd : Rd (wr.alloc (.cells #[.int .i64 (i : Int), .int .i64 ((i : Int) + 1), .int .i64 0] 50)) (some ⟨wr.heap.size, 0, none⟩) 3 1 (pv ((i : Int), (i : Int) + 1)) := Rd.new wr #[.int .i64 (i : Int), .int .i64 ((i : Int) + 1), .int .i64 0] 50 (0, 0) rfl
            by_cases hi1 : 0 < i
            · obtain ⟨j, hj⟩ : ∃ j, i = j + 1 := ⟨i - 1, by omega⟩
              have Hj := Lib.hid hj
              have q1 : wr.cell? ⟨gy, j, none⟩ = some (.bool (y j)) := hk.cell (tva_at _ (by omega))
              have hij : (0 : Int) < (i : Int) := by omega
              have hwj : IntKind.i64.wrap ((i : Int) - 1) = (j : Int) := by rw [IntKind.wrap_i64]; omega
              have hj0 : (0 : Int) ≤ (j : Int) := by omega
              have hj1 : (j : Int) < 1024 := by omega
              clear hj
              cases hyj : y j with
              | true =>
                rw [hyj] at q1
                obtain ⟨p, q, hr1, hr2, hr3⟩ := runs_more (by rw [← Hj.out]; exact hyi) hyj
                rw [← Hj.out] at hr1 hr2 hr3
                rw [hr1] at hO
                obtain ⟨g, cap, rfl, hbg, hnm, c1, c2, hset⟩ := po_set hO
                have Hr3 := Lib.hid hr3
                have hne := blk_not_row hk (by decide) hO
                have hne2 : gy ≠ g := fun e => hne (by rw [e]; rfl)
                generalize hmp : p.length = mm at *
                have hw1 : IntKind.i64.wrap ((k : Int) - 1) = (mm : Int) := by rw [IntKind.wrap_i64]; omega
                have hm0 : (0 : Int) ≤ (mm : Int) := by omega
                have hmn : (mm : Int) < (k : Int) := by omega
                rw [hr2] at c1 hset Hr3
                have hgr := grown_setCell wr ⟨g, mm * 3 + 1, none⟩ (.int .i64 ((i : Int) + 1))
                have hk7 := hk.grown hgr (fun e => by simp at e; exact hne2 e)
                have hB7 := hbb.setCell (p := ⟨g, mm * 3 + 1, none⟩) hbg (.int .i64 ((i : Int) + 1))
                clear hmp hnm hr1 hr2 hr3 hO
                go_wp2
                go_roundw
                case rel => exact ⟨i + 1, k, by omega, by go_num, by rw [Hr3.out]; exact hset, hk7, hB7⟩
                case measure => simp [intOf]; omega
              | false =>
                rw [hyj] at q1
                have Hru := Lib.hid (runs_new hyi (fun j' h => by
                  have := Hj.out
                  have e : j = j' := by omega
                  rw [← e]
                  exact hyj))
                obtain ⟨A8, c8, rfl, -, -, -⟩ := own_form hO
                go_wp2_with (first
                  | (at_builtin
                     go_must (refine wpList_app _ rfl (.tmp 60) (.tmp 65) _ rfl w.heap.size 50 i0 _ 3 24 Try.underlying34 hi0 hz0 hz1 Hz.out rfl (by decide) (.slice A8 k c8) k _ rfl (own_keep hO ((Below.refl _ _).alloc (Nat.le_refl _) _)) _ 1 1 (pv ((i : Int), (i : Int) + 1)) rfl (fun h => by cases h) hrd (pv_one _) (by unfold maxLen; omega) (by omega) (by simp; omega) ?_)
                     intro v3 w7 hown3 hg3 hat3))
                have hk7 : Blk w7 gy 4 (tva 1024 y) := (hk.alloc _).grown hg3 (blk_not_row hk (by decide) hO)
                have hB7 : Below w.heap.size w w7 := (hbb.alloc hbs _).grown hg3 (by simp; omega) (fun q hq => (hO.lt q hq).1)
                rw [← pvs_snoc, ← Hru.out] at hown3
                go_roundw
                case rel => exact ⟨i + 1, k + 1, by omega, by go_num, hown3, hk7, hB7⟩
                case measure => simp [intOf]; omega
            · have hij : (i : Int) ≤ 0 := by omega
              have hij2 : decide ((0 : Int) < (i : Int)) = false := decide_eq_false (by omega)
              have Hru := Lib.hid (runs_new hyi (fun j' h => by omega))
              obtain ⟨A8, c8, rfl, -, -, -⟩ := own_form hO
              go_wp2_with (first
                | (at_builtin
                   go_must (refine wpList_app _ rfl (.tmp 60) (.tmp 65) _ rfl w.heap.size 50 i0 _ 3 24 Try.underlying34 hi0 hz0 hz1 Hz.out rfl (by decide) (.slice A8 k c8) k _ rfl (own_keep hO ((Below.refl _ _).alloc (Nat.le_refl _) _)) _ 1 1 (pv ((i : Int), (i : Int) + 1)) rfl (fun h => by cases h) hrd (pv_one _) (by unfold maxLen; omega) (by omega) (by simp; omega) ?_)
                   intro v3 w7 hown3 hg3 hat3))
              have hk7 : Blk w7 gy 4 (tva 1024 y) := (hk.alloc _).grown hg3 (blk_not_row hk (by decide) hO)
              have hB7 : Below w.heap.size w w7 := (hbb.alloc hbs _).grown hg3 (by simp; omega) (fun q hq => (hO.lt q hq).1)
              rw [← pvs_snoc, ← Hru.out] at hown3
              go_roundw
              case rel => exact ⟨i + 1, k + 1, by omega, by go_num, hown3, hk7, hB7⟩
              case measure => simp [intOf]; omega
        · have hge : (1024 : Int) ≤ (i : Int) := by omega
          have he : i = 1024 := by omega
          subst he
          obtain ⟨A8, c8, rfl, -, -, -⟩ := own_form hO
          go_wp2
          go_ret2
          rw [HE.out, HL.out]
          exact ⟨A8, k, c8, rfl, hO, hbb⟩
end
end Go.Proofs.Ytfdfjnepfgabaaa

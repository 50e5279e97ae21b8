/- Layer 6: emap's Form, At and Since. -/
import Derived.Test.YtechbmppbmppdaaEmpF
namespace Go.Proofs.Ytechbmppbmppdaa
open Go.RowKit

/-- What At answers. -/
def atV : Option (Int × Int) → Array Value
  | none => #[.int .i64 0, .int .i64 0, .bool false]
  | some (p, b) => #[.int .i64 p, .int .i64 b, .bool true]
/-- A row of the call's own, as it is laid on. -/
structure Own (w : World) (B : Nat) (v : Value) (l : List Ext) (m : Nat) : Prop where
  row : ∃ n, Eo w B v n l
  mays : mays l
  len : l.length ≤ m
theorem since_cons (x : Ext) (l : List Ext) (b : Int) : sinceL (x :: l) b = if b < x.birth then x :: sinceL l b else sinceL l b := by
  unfold sinceL
  rw [List.filter_cons]
  simp

section
variable (w : World)
set_option maxRecDepth 100000 in
theorem form_no (A : Option Addr) (n c : Nat) (l : List Ext) (h : Es w A n l) (hn : n ≤ 9223372036854775807) (hr : listB l = false) :
    Calls Try.prog 10 #[.slice A n c] w fun e w' => e = .returned (.tuple #[.slice none 0 0, .int .i64 1]) ∧ Below w.heap.size w w' := by
  go_enter Try.func10, Try.ntmps10
  go_wp2_with fail
  refine (list_ _ A n c l h hn).mono ?_
  rw [hr]
  rintro e w2 ⟨rfl, hb2⟩
  go_wp2
  go_ret2
  exact ⟨rfl, hb2⟩
set_option maxRecDepth 100000 in
set_option maxHeartbeats 2000000 in
theorem form_ok (A : Option Addr) (n c : Nat) (l : List Ext) (h : Es w A n l) (hr : listB l = true) :
    Calls Try.prog 10 #[.slice A n c] w fun e w' => ∃ v m, e = .returned (.tuple #[v, .int .i64 0]) ∧ Eo w' w.heap.size v m (joinL l) ∧ Below w.heap.size w w' := by
  have Hl := Lib.hid h.len
  have hn : n ≤ 1024 := by have := list_short (lo := 0) hr (by omega); have := Hl.out; omega
  have hml := mays_list hr
  have Hfold := Lib.hid (fold_join l)
  go_enter Try.func10, Try.ntmps10
  go_wp2_with fail
  refine (list_ _ A n c l h (by omega)).mono ?_
  rw [hr]
  rintro e w2 ⟨rfl, hb2⟩
  go_wp2_with fail
  go_loopw [4, 12] (fun fv iv wr => ∃ (k : Nat) (cur : List Ext), k ≤ n ∧ iv = .int .i64 (k : Int) ∧ Own wr w.heap.size fv cur k ∧ (l.drop k).foldl pushL cur = l.foldl pushL [] ∧ Below w.heap.size w wr) (fun _ iv _ => n - (intOf iv).toNat)
  case atStart => exact ⟨0, [], Nat.zero_le _, rfl, ⟨⟨0, eo_nil _ _⟩, mays_nil, Nat.le_refl _⟩, rfl, hb2⟩
  case round =>
    obtain ⟨k, cur, hk, rfl, ⟨⟨m, hO⟩, hcm, hcl⟩, hfold, hb⟩ := hrel
    by_cases hlt : k < n
    · have hil : (k : Int) < (n : Int) := by omega
      obtain ⟨q, o, rfl, x, hx, fx, c0, c1, c2, c3⟩ := (h.below hb).at_ hlt
      have hxm := hml x (List.mem_of_getElem? hx)
      rw [drop_of hx] at hfold
      have Hf := Lib.hid hfold
      have hba : Below wr.heap.size wr (wr.alloc (.cells #[.int .i64 x.off, .int .i64 x.len, .int .i64 x.phys, .int .i64 x.birth] 32)) := (Below.refl _ _).alloc (Nat.le_refl _) _
      have hB1 := below_step hb hba (Nat.le_refl _)
      have hO1 := own_keep hO hba
      have hml2 := eo_len hO
      have hbs := hB1.size
      have hm2 : m ≤ 100000 := by omega
      clear hfold hml2 hO h hb
      go_wp2_with fail
      refine (join_ _ w.heap.size _ m cur x hO1 hbs hm2 hcm hxm).mono ?_
      rintro e w3 ⟨v3, n3, rfl, hO3, haf⟩
      have hB3 := hB1.trans (haf.below hbs (own_from hO1))
      go_wp2
      go_roundw
      case rel => exact ⟨k + 1, _, by omega, by go_num, ⟨⟨n3, hO3⟩, mays_push hcm hxm, Nat.le_trans (push_length _ _) (Nat.succ_le_succ hcl)⟩, Hf.out, hB3⟩
      case measure => simp [intOf]; omega
    · have hin : (n : Int) ≤ (k : Int) := by omega
      have hd : l.drop k = [] := list_done Hl.out (by omega)
      rw [hd] at hfold
      have Hf := Lib.hid (show cur = joinL l from (show cur = _ from hfold).trans Hfold.out)
      clear hfold hd
      go_wp2
      go_ret2
      rw [← Hf.out]
      exact ⟨_, m, rfl, hO, hb⟩

set_option maxRecDepth 100000 in
theorem since_no (A : Option Addr) (n c : Nat) (l : List Ext) (b : Int) (h : Es w A n l) (hn : n ≤ 9223372036854775807) (hr : rightB l = false) :
    Calls Try.prog 24 #[.slice A n c, .int .i64 b] w fun e w' => e = .returned (.tuple #[.slice none 0 0, .int .i64 1]) ∧ Below w.heap.size w w' := by
  go_enter Try.func24, Try.ntmps24
  go_wp2_with fail
  refine (right_ _ A n c l h hn).mono ?_
  rw [hr]
  rintro e w2 ⟨rfl, hb2⟩
  go_wp2
  go_ret2
  exact ⟨rfl, hb2⟩
set_option maxRecDepth 100000 in
set_option maxHeartbeats 2000000 in
theorem since_ok (A : Option Addr) (n c : Nat) (l : List Ext) (b : Int) (h : Es w A n l) (hr : rightB l = true) :
    Calls Try.prog 24 #[.slice A n c, .int .i64 b] w fun e w' => ∃ v m, e = .returned (.tuple #[v, .int .i64 0]) ∧ Eo w' w.heap.size v m (sinceL l b) ∧ Below w.heap.size w w' := by
  obtain ⟨i0, hi0, hz0, hz1, hz2⟩ := ext_info
  have Hz := Lib.hid hz2
  clear hz2
  have Hl := Lib.hid h.len
  have hn : n ≤ 1024 := by have := right_short hr; have := Hl.out; omega
  have hml := mays_right hr
  go_enter Try.func24, Try.ntmps24
  go_wp2_with fail
  refine (right_ _ A n c l h (by omega)).mono ?_
  rw [hr]
  rintro e w2 ⟨rfl, hb2⟩
  go_wp2_with fail
  go_loopw [6, 14] (fun fv iv wr => ∃ (k : Nat) (cur : List Ext), k ≤ n ∧ iv = .int .i64 (k : Int) ∧ Own wr w.heap.size fv cur k ∧ cur ++ sinceL (l.drop k) b = sinceL l b ∧ Below w.heap.size w wr) (fun _ iv _ => n - (intOf iv).toNat)
  case atStart => exact ⟨0, [], Nat.zero_le _, rfl, ⟨⟨0, eo_nil _ _⟩, mays_nil, Nat.le_refl _⟩, rfl, hb2⟩
  case round =>
    obtain ⟨k, cur, hk, rfl, ⟨⟨m, hO⟩, hcm, hcl⟩, hfold, hb⟩ := hrel
    obtain ⟨A5, c5, rfl, -, -, -⟩ := own_form hO
    by_cases hlt : k < n
    · have hil : (k : Int) < (n : Int) := by omega
      obtain ⟨q, o, rfl, x, hx, fx, c0, c1, c2, c3⟩ := (h.below hb).at_ hlt
      have hxm := hml x (List.mem_of_getElem? hx)
      obtain ⟨fo, fl, fp, fb⟩ := fx.all
      rw [drop_of hx, since_cons] at hfold
      have hba : Below wr.heap.size wr (wr.alloc (.cells #[.int .i64 x.off, .int .i64 x.len, .int .i64 x.phys, .int .i64 x.birth] 32)) := (Below.refl _ _).alloc (Nat.le_refl _) _
      have hB1 := below_step hb hba (Nat.le_refl _)
      have hO1 := own_keep hO hba
      have hml2 := eo_len hO
      have hbs := hB1.size
      have hbs0 := hb.size
      have hm2 : m ≤ 100000 := by omega
      by_cases hbb : b < x.birth
      · rw [if_pos hbb] at hfold
        have Hf := Lib.hid hfold
        clear hfold hml2 hO h hb
        go_wp2_with (first
          | (at_builtin
             go_must (refine wpList_app _ rfl (.tmp 22) (.tmp 24) _ rfl w.heap.size 32 i0 _ 4 32 Try.underlying22 hi0 hz0 hz1 Hz.out rfl (by decide) _ m _ rfl (own_keep hO1 ((Below.refl _ _).alloc (Nat.le_refl _) _)) _ 1 1 (ev x) rfl (fun h => by cases h) (rd_one (by simp)) (by intro u hu; exact evs_one [x] u (by simpa [evs] using hu)) (by unfold maxLen; omega) (by omega) (by simp; omega) ?_)
             intro v3 w3 hown3 hg3 hat3
             have hO3 : Eo w3 w.heap.size v3 (m + 1) (cur ++ [x]) := eo_of hown3 (evs_snoc _ _).symm
             have hB3 : Below w.heap.size w w3 := (hB1.alloc hbs _).grown hg3 (by simp; omega) (own_from hO1)))
        go_roundw
        case rel => exact ⟨k + 1, _, by omega, by go_num, ⟨⟨m + 1, hO3⟩, mays_snoc hcm hxm, by simp; omega⟩, by rw [← Hf.out]; simp, hB3⟩
        case measure => simp [intOf]; omega
      · rw [if_neg hbb] at hfold
        have Hf := Lib.hid hfold
        clear hfold hml2 hO h hb
        go_wp2
        go_roundw
        case rel => exact ⟨k + 1, _, by omega, by go_num, ⟨⟨m, hO1⟩, hcm, by omega⟩, Hf.out, hB1⟩
        case measure => simp [intOf]; omega
    · have hin : (n : Int) ≤ (k : Int) := by omega
      have hd : l.drop k = [] := list_done Hl.out (by omega)
      rw [hd] at hfold
      have Hf := Lib.hid (show cur = sinceL l b by rw [← hfold]; simp [sinceL])
      clear hfold hd
      go_wp2
      go_ret2
      rw [← Hf.out]
      exact ⟨_, m, rfl, hO, hb⟩

set_option maxRecDepth 100000 in
theorem at_no (A : Option Addr) (n c : Nat) (l : List Ext) (o : Int) (h : Es w A n l) (hn : n ≤ 9223372036854775807) (hr : rightB l = false) :
    Calls Try.prog 22 #[.slice A n c, .int .i64 o] w fun e w' => e = .returned (.tuple (atV none)) ∧ Below w.heap.size w w' := by
  go_enter Try.func22, Try.ntmps22
  go_wp2_with fail
  refine (right_ _ A n c l h hn).mono ?_
  rw [hr]
  rintro e w2 ⟨rfl, hb2⟩
  go_wp2
  go_ret3
  exact ⟨rfl, hb2⟩
set_option maxRecDepth 100000 in
set_option maxHeartbeats 2000000 in
theorem at_ok (A : Option Addr) (n c : Nat) (l : List Ext) (o : Int) (h : Es w A n l) (hr : rightB l = true) (ho : I64 o) :
    Calls Try.prog 22 #[.slice A n c, .int .i64 o] w fun e w' => e = .returned (.tuple (atV (atL l o))) ∧ Below w.heap.size w w' := by
  have Hl := Lib.hid h.len
  have hn : n ≤ 1024 := by have := right_short hr; have := Hl.out; omega
  have hml := mays_right hr
  unfold I64 at ho
  go_enter Try.func22, Try.ntmps22
  go_wp2_with fail
  refine (right_ _ A n c l h (by omega)).mono ?_
  rw [hr]
  rintro e w2 ⟨rfl, hb2⟩
  go_wp2_with fail
  go_loopw [14] (fun iv wr => ∃ (k : Nat), k ≤ n ∧ iv = .int .i64 (k : Int) ∧ atL (l.drop k) o = atL l o ∧ Below w.heap.size w wr) (fun iv _ => n - (intOf iv).toNat)
  case atStart => exact ⟨0, Nat.zero_le _, rfl, rfl, hb2⟩
  case round =>
    obtain ⟨k, hk, rfl, hfold, hb⟩ := hrel
    by_cases hlt : k < n
    · have hil : (k : Int) < (n : Int) := by omega
      obtain ⟨q, p, rfl, x, hx, fx, c0, c1, c2, c3⟩ := (h.below hb).at_ hlt
      have hxm := hml x (List.mem_of_getElem? hx)
      have hxl := may_len hxm
      rw [drop_of hx] at hfold
      have hba : Below wr.heap.size wr (wr.alloc (.cells #[.int .i64 x.off, .int .i64 x.len, .int .i64 x.phys, .int .i64 x.birth] 32)) := (Below.refl _ _).alloc (Nat.le_refl _) _
      have hB1 := below_step hb hba (Nat.le_refl _)
      have hwx : IntKind.i64.wrap (x.off + x.len) = x.off + x.len := by rw [IntKind.wrap_i64]; omega
      by_cases h0 : x.off ≤ o
      · by_cases h1 : o < x.off + x.len
        · rw [at_head ⟨h0, h1⟩] at hfold
          have Hf := Lib.hid hfold
          have hw2 : IntKind.i64.wrap (x.phys + o) = x.phys + o := by rw [IntKind.wrap_i64]; omega
          have hw3 : IntKind.i64.wrap (x.phys + o - x.off) = x.phys + o - x.off := by rw [IntKind.wrap_i64]; omega
          clear hfold h hb
          go_wp2_with fail
          go_quiet (fail)
          go_wp2
          go_ret3
          rw [← Hf.out]
          exact ⟨rfl, below_drewN hB1 _⟩
        · rw [at_tail (by omega)] at hfold
          have Hf := Lib.hid hfold
          clear hfold h hb
          go_wp2
          go_roundw
          case rel => exact ⟨k + 1, by omega, by go_num, Hf.out, hB1⟩
          case measure => simp [intOf]; omega
      · rw [at_tail (by omega)] at hfold
        have Hf := Lib.hid hfold
        clear hfold h hb
        go_wp2
        go_roundw
        case rel => exact ⟨k + 1, by omega, by go_num, Hf.out, hB1⟩
        case measure => simp [intOf]; omega
    · have hin : (n : Int) ≤ (k : Int) := by omega
      have hd : l.drop k = [] := list_done Hl.out (by omega)
      rw [hd] at hfold
      have Hf := Lib.hid hfold
      clear hfold hd
      go_wp2
      go_ret3
      rw [← Hf.out]
      exact ⟨rfl, hb⟩
end
end Go.Proofs.Ytechbmppbmppdaa

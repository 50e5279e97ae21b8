/- Layer 6: parts hands on what lies there, in order. -/
import Derived.Test.YtiehhmchokbafaaEmpD
set_option linter.all false
namespace Go.Proofs.Ytiehhmchokbafaa
open Go.RowKit

theorem clip_may {x y : Ext} {a b : Int} (hx : x.may = true) (h : clip x a b = some y) : y.may = true := by
  have := may_len hx
  obtain ⟨h1, h2, h3, h4, h5⟩ := clip_some h
  exact may_of (by omega)
theorem clip_is {x : Ext} {a b lo hi : Int} (hl : max x.off a = lo) (hh : min (x.off + x.len) b = hi) (h : lo < hi) : clip x a b = some ⟨lo, hi - lo, x.phys + lo - x.off, x.birth⟩ := by
  unfold clip
  rw [hl, hh, if_pos h]
theorem clip_not {x : Ext} {a b lo hi : Int} (hl : max x.off a = lo) (hh : min (x.off + x.len) b = hi) (h : ¬ lo < hi) : clip x a b = none := by
  unfold clip
  rw [hl, hh, if_neg h]
/-- What a closure does with what it is handed. -/
def Does (F : FuncId) (B bv : Nat) (push : List Ext → Ext → List Ext) : Prop :=
  ∀ (w : World) (l : List Ext) (x : Ext), Held w B bv l → B ≤ w.heap.size → l.length ≤ 100000 → mays l → x.may = true →
    Calls Try.prog F #[.agg #[.int .i64 x.off, .int .i64 x.len, .int .i64 x.phys, .int .i64 x.birth], .pointer (some ⟨bv, 0, none⟩)] w fun e w' => e = .returned (.tuple #[]) ∧ Held w' B bv (push l x) ∧ Below B w w'
/-- A list, as it is laid on: all may be, and it has no more than so many. -/
structure Laid (w : World) (B bv : Nat) (l : List Ext) (m : Nat) : Prop where
  held : Held w B bv l
  mays : mays l
  len : l.length ≤ m

section
variable (w0 : World)
set_option maxRecDepth 100000 in
set_option maxHeartbeats 2000000 in
theorem parts_put (bv : Nat) (push : List Ext → Ext → List Ext) (hf : Does 61 w0.heap.size bv push) (hp1 : ∀ l x, mays l → x.may = true → mays (push l x)) (hp2 : ∀ l x, (push l x).length ≤ l.length + 1)
    (A : Option Addr) (n c : Nat) (l : List Ext) (h : Es w0 A n l) (hm : mays l) (a b : Int) (ha : I64 a) (hbb : I64 b) (acc : List Ext) (m : Nat) (hmn : m + n ≤ 100000)
    (w : World) (hw : Below w0.heap.size w0 w) (hH : Laid w w0.heap.size bv acc m) :
    Calls Try.prog 55 #[.slice A n c, .int .i64 a, .int .i64 b, .func (.func 61) #[] #[.pointer (some ⟨bv, 0, none⟩)]] w fun e w' => e = .returned (.tuple #[]) ∧ Laid w' w0.heap.size bv ((partL l a b).foldl push acc) (m + n) ∧ Below w0.heap.size w0 w' := by
  have Hl := Lib.hid h.len
  unfold I64 at ha hbb
  go_enter Try.func55, Try.ntmps55
  go_wp2_with fail
  go_loopw [14] (fun iv wr => ∃ (k : Nat) (cur : List Ext), k ≤ n ∧ iv = .int .i64 (k : Int) ∧ Laid wr w0.heap.size bv cur (m + k) ∧ (partL (l.drop k) a b).foldl push cur = (partL l a b).foldl push acc ∧ Below w0.heap.size w0 wr) (fun iv _ => n - (intOf iv).toNat)
  case atStart => exact ⟨0, acc, Nat.zero_le _, rfl, hH, rfl, hw⟩
  case round =>
    obtain ⟨k, cur, hk, rfl, hL, hfold, hb⟩ := hrel
    clear hH hw
    by_cases hlt : k < n
    · have hil : (k : Int) < (n : Int) := by omega
      obtain ⟨q, o, rfl, x, hx, fx, c0, c1, c2, c3⟩ := (h.below hb).at_ hlt
      have hxm := hm x (List.mem_of_getElem? hx)
      have hxl := may_len hxm
      rw [drop_of hx, part_cons] at hfold
      have hac := Blk.new wr 24 #[.int .i64 x.off, .int .i64 x.len, .int .i64 x.phys, .int .i64 x.birth] rfl
      have hba : Below wr.heap.size wr (wr.alloc (.cells #[.int .i64 x.off, .int .i64 x.len, .int .i64 x.phys, .int .i64 x.birth] 24)) := (Below.refl _ _).alloc (Nat.le_refl _) _
      have hB1 := below_step hb hba (Nat.le_refl _)
      have hL1 := hL.held.keep hba
      obtain ⟨lo, hlo⟩ : ∃ lo, max x.off a = lo := ⟨_, rfl⟩
      obtain ⟨hi, hhi⟩ : ∃ hi, min (x.off + x.len) b = hi := ⟨_, rfl⟩
      have hwx : IntKind.i64.wrap (x.off + x.len) = x.off + x.len := by rw [IntKind.wrap_i64]; omega
      have hbs := hB1.size
      by_cases hlh : lo < hi
      · have hc := clip_is hlo hhi hlh
        have Hcm := Lib.hid (clip_may hxm hc)
        rw [hc] at hfold
        have Hf := Lib.hid hfold
        have hw1 : IntKind.i64.wrap (hi - lo) = hi - lo := by rw [IntKind.wrap_i64]; omega
        have hw2 : IntKind.i64.wrap (x.phys + lo) = x.phys + lo := by rw [IntKind.wrap_i64]; omega
        have hw3 : IntKind.i64.wrap (x.phys + lo - x.off) = x.phys + lo - x.off := by rw [IntKind.wrap_i64]; omega
        clear hc hfold h hb
        go_wp2_with fail
        go_region
        go_wp2_with fail
        refine (hf _ cur ⟨lo, hi - lo, x.phys + lo - x.off, x.birth⟩ hL1.drew hbs (by have := hL.len; omega) hL.mays Hcm.out).mono ?_
        rintro e w2 ⟨rfl, hH2, hB2⟩
        have hB2' := hB1.trans (below_undrew hB2)
        go_wp2
        go_roundw
        case rel => exact ⟨k + 1, _, by omega, by go_num, ⟨hH2, hp1 _ _ hL.mays Hcm.out, by have := hL.len; have := hp2 cur ⟨lo, hi - lo, x.phys + lo - x.off, x.birth⟩; omega⟩, Hf.out, hB2'⟩
        case measure => simp [intOf]; omega
      · have hc := clip_not hlo hhi hlh
        rw [hc] at hfold
        have Hf := Lib.hid hfold
        clear hc hfold h hb
        go_wp2_with fail
        go_region
        go_wp2
        go_roundw
        case rel => exact ⟨k + 1, cur, by omega, by go_num, ⟨hL1.drew, hL.mays, by have := hL.len; omega⟩, Hf.out, hB1.drew⟩
        case measure => simp [intOf]; omega
    · have hin : (n : Int) ≤ (k : Int) := by omega
      have hd : l.drop k = [] := list_done Hl.out (by omega)
      rw [hd] at hfold
      have Hf := Lib.hid (show cur = _ from hfold)
      clear hfold hd
      go_wp2
      go_end0
      rw [← Hf.out]
      exact ⟨rfl, ⟨hL.held, hL.mays, by have := hL.len; omega⟩, hb⟩
set_option maxRecDepth 100000 in
set_option maxHeartbeats 2000000 in
theorem parts_cut (bv : Nat) (push : List Ext → Ext → List Ext) (hf : Does 63 w0.heap.size bv push) (hp1 : ∀ l x, mays l → x.may = true → mays (push l x)) (hp2 : ∀ l x, (push l x).length ≤ l.length + 1)
    (A : Option Addr) (n c : Nat) (l : List Ext) (h : Es w0 A n l) (hm : mays l) (a b : Int) (ha : I64 a) (hbb : I64 b) (acc : List Ext) (m : Nat) (hmn : m + n ≤ 100000)
    (w : World) (hw : Below w0.heap.size w0 w) (hH : Laid w w0.heap.size bv acc m) :
    Calls Try.prog 55 #[.slice A n c, .int .i64 a, .int .i64 b, .func (.func 63) #[] #[.pointer (some ⟨bv, 0, none⟩)]] w fun e w' => e = .returned (.tuple #[]) ∧ Laid w' w0.heap.size bv ((partL l a b).foldl push acc) (m + n) ∧ Below w0.heap.size w0 w' := by
  have Hl := Lib.hid h.len
  unfold I64 at ha hbb
  go_enter Try.func55, Try.ntmps55
  go_wp2_with fail
  go_loopw [14] (fun iv wr => ∃ (k : Nat) (cur : List Ext), k ≤ n ∧ iv = .int .i64 (k : Int) ∧ Laid wr w0.heap.size bv cur (m + k) ∧ (partL (l.drop k) a b).foldl push cur = (partL l a b).foldl push acc ∧ Below w0.heap.size w0 wr) (fun iv _ => n - (intOf iv).toNat)
  case atStart => exact ⟨0, acc, Nat.zero_le _, rfl, hH, rfl, hw⟩
  case round =>
    obtain ⟨k, cur, hk, rfl, hL, hfold, hb⟩ := hrel
    clear hH hw
    by_cases hlt : k < n
    · have hil : (k : Int) < (n : Int) := by omega
      obtain ⟨q, o, rfl, x, hx, fx, c0, c1, c2, c3⟩ := (h.below hb).at_ hlt
      have hxm := hm x (List.mem_of_getElem? hx)
      have hxl := may_len hxm
      rw [drop_of hx, part_cons] at hfold
      have hac := Blk.new wr 24 #[.int .i64 x.off, .int .i64 x.len, .int .i64 x.phys, .int .i64 x.birth] rfl
      have hba : Below wr.heap.size wr (wr.alloc (.cells #[.int .i64 x.off, .int .i64 x.len, .int .i64 x.phys, .int .i64 x.birth] 24)) := (Below.refl _ _).alloc (Nat.le_refl _) _
      have hB1 := below_step hb hba (Nat.le_refl _)
      have hL1 := hL.held.keep hba
      obtain ⟨lo, hlo⟩ : ∃ lo, max x.off a = lo := ⟨_, rfl⟩
      obtain ⟨hi, hhi⟩ : ∃ hi, min (x.off + x.len) b = hi := ⟨_, rfl⟩
      have hwx : IntKind.i64.wrap (x.off + x.len) = x.off + x.len := by rw [IntKind.wrap_i64]; omega
      have hbs := hB1.size
      by_cases hlh : lo < hi
      · have hc := clip_is hlo hhi hlh
        have Hcm := Lib.hid (clip_may hxm hc)
        rw [hc] at hfold
        have Hf := Lib.hid hfold
        have hw1 : IntKind.i64.wrap (hi - lo) = hi - lo := by rw [IntKind.wrap_i64]; omega
        have hw2 : IntKind.i64.wrap (x.phys + lo) = x.phys + lo := by rw [IntKind.wrap_i64]; omega
        have hw3 : IntKind.i64.wrap (x.phys + lo - x.off) = x.phys + lo - x.off := by rw [IntKind.wrap_i64]; omega
        clear hc hfold h hb
        go_wp2_with fail
        go_region
        go_wp2_with fail
        refine (hf _ cur ⟨lo, hi - lo, x.phys + lo - x.off, x.birth⟩ hL1.drew hbs (by have := hL.len; omega) hL.mays Hcm.out).mono ?_
        rintro e w2 ⟨rfl, hH2, hB2⟩
        have hB2' := hB1.trans (below_undrew hB2)
        go_wp2
        go_roundw
        case rel => exact ⟨k + 1, _, by omega, by go_num, ⟨hH2, hp1 _ _ hL.mays Hcm.out, by have := hL.len; have := hp2 cur ⟨lo, hi - lo, x.phys + lo - x.off, x.birth⟩; omega⟩, Hf.out, hB2'⟩
        case measure => simp [intOf]; omega
      · have hc := clip_not hlo hhi hlh
        rw [hc] at hfold
        have Hf := Lib.hid hfold
        clear hc hfold h hb
        go_wp2_with fail
        go_region
        go_wp2
        go_roundw
        case rel => exact ⟨k + 1, cur, by omega, by go_num, ⟨hL1.drew, hL.mays, by have := hL.len; omega⟩, Hf.out, hB1.drew⟩
        case measure => simp [intOf]; omega
    · have hin : (n : Int) ≤ (k : Int) := by omega
      have hd : l.drop k = [] := list_done Hl.out (by omega)
      rw [hd] at hfold
      have Hf := Lib.hid (show cur = _ from hfold)
      clear hfold hd
      go_wp2
      go_end0
      rw [← Hf.out]
      exact ⟨rfl, ⟨hL.held, hL.mays, by have := hL.len; omega⟩, hb⟩
set_option maxRecDepth 100000 in
set_option maxHeartbeats 2000000 in
theorem parts_part (bv : Nat) (push : List Ext → Ext → List Ext) (hf : Does 56 w0.heap.size bv push) (hp1 : ∀ l x, mays l → x.may = true → mays (push l x)) (hp2 : ∀ l x, (push l x).length ≤ l.length + 1)
    (A : Option Addr) (n c : Nat) (l : List Ext) (h : Es w0 A n l) (hm : mays l) (a b : Int) (ha : I64 a) (hbb : I64 b) (acc : List Ext) (m : Nat) (hmn : m + n ≤ 100000)
    (w : World) (hw : Below w0.heap.size w0 w) (hH : Laid w w0.heap.size bv acc m) :
    Calls Try.prog 55 #[.slice A n c, .int .i64 a, .int .i64 b, .func (.func 56) #[] #[.pointer (some ⟨bv, 0, none⟩)]] w fun e w' => e = .returned (.tuple #[]) ∧ Laid w' w0.heap.size bv ((partL l a b).foldl push acc) (m + n) ∧ Below w0.heap.size w0 w' := by
  have Hl := Lib.hid h.len
  unfold I64 at ha hbb
  go_enter Try.func55, Try.ntmps55
  go_wp2_with fail
  go_loopw [14] (fun iv wr => ∃ (k : Nat) (cur : List Ext), k ≤ n ∧ iv = .int .i64 (k : Int) ∧ Laid wr w0.heap.size bv cur (m + k) ∧ (partL (l.drop k) a b).foldl push cur = (partL l a b).foldl push acc ∧ Below w0.heap.size w0 wr) (fun iv _ => n - (intOf iv).toNat)
  case atStart => exact ⟨0, acc, Nat.zero_le _, rfl, hH, rfl, hw⟩
  case round =>
    obtain ⟨k, cur, hk, rfl, hL, hfold, hb⟩ := hrel
    clear hH hw
    by_cases hlt : k < n
    · have hil : (k : Int) < (n : Int) := by omega
      obtain ⟨q, o, rfl, x, hx, fx, c0, c1, c2, c3⟩ := (h.below hb).at_ hlt
      have hxm := hm x (List.mem_of_getElem? hx)
      have hxl := may_len hxm
      rw [drop_of hx, part_cons] at hfold
      have hac := Blk.new wr 24 #[.int .i64 x.off, .int .i64 x.len, .int .i64 x.phys, .int .i64 x.birth] rfl
      have hba : Below wr.heap.size wr (wr.alloc (.cells #[.int .i64 x.off, .int .i64 x.len, .int .i64 x.phys, .int .i64 x.birth] 24)) := (Below.refl _ _).alloc (Nat.le_refl _) _
      have hB1 := below_step hb hba (Nat.le_refl _)
      have hL1 := hL.held.keep hba
      obtain ⟨lo, hlo⟩ : ∃ lo, max x.off a = lo := ⟨_, rfl⟩
      obtain ⟨hi, hhi⟩ : ∃ hi, min (x.off + x.len) b = hi := ⟨_, rfl⟩
      have hwx : IntKind.i64.wrap (x.off + x.len) = x.off + x.len := by rw [IntKind.wrap_i64]; omega
      have hbs := hB1.size
      by_cases hlh : lo < hi
      · have hc := clip_is hlo hhi hlh
        have Hcm := Lib.hid (clip_may hxm hc)
        rw [hc] at hfold
        have Hf := Lib.hid hfold
        have hw1 : IntKind.i64.wrap (hi - lo) = hi - lo := by rw [IntKind.wrap_i64]; omega
        have hw2 : IntKind.i64.wrap (x.phys + lo) = x.phys + lo := by rw [IntKind.wrap_i64]; omega
        have hw3 : IntKind.i64.wrap (x.phys + lo - x.off) = x.phys + lo - x.off := by rw [IntKind.wrap_i64]; omega
        clear hc hfold h hb
        go_wp2_with fail
        go_region
        go_wp2_with fail
        refine (hf _ cur ⟨lo, hi - lo, x.phys + lo - x.off, x.birth⟩ hL1.drew hbs (by have := hL.len; omega) hL.mays Hcm.out).mono ?_
        rintro e w2 ⟨rfl, hH2, hB2⟩
        have hB2' := hB1.trans (below_undrew hB2)
        go_wp2
        go_roundw
        case rel => exact ⟨k + 1, _, by omega, by go_num, ⟨hH2, hp1 _ _ hL.mays Hcm.out, by have := hL.len; have := hp2 cur ⟨lo, hi - lo, x.phys + lo - x.off, x.birth⟩; omega⟩, Hf.out, hB2'⟩
        case measure => simp [intOf]; omega
      · have hc := clip_not hlo hhi hlh
        rw [hc] at hfold
        have Hf := Lib.hid hfold
        clear hc hfold h hb
        go_wp2_with fail
        go_region
        go_wp2
        go_roundw
        case rel => exact ⟨k + 1, cur, by omega, by go_num, ⟨hL1.drew, hL.mays, by have := hL.len; omega⟩, Hf.out, hB1.drew⟩
        case measure => simp [intOf]; omega
    · have hin : (n : Int) ≤ (k : Int) := by omega
      have hd : l.drop k = [] := list_done Hl.out (by omega)
      rw [hd] at hfold
      have Hf := Lib.hid (show cur = _ from hfold)
      clear hfold hd
      go_wp2
      go_end0
      rw [← Hf.out]
      exact ⟨rfl, ⟨hL.held, hL.mays, by have := hL.len; omega⟩, hb⟩
end
end Go.Proofs.Ytiehhmchokbafaa

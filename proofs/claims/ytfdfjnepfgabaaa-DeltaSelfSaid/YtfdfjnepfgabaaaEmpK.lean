/- XEmpJ, XEmpK. -/
import Derived.Test.YtfdfjnepfgabaaaEmpR
import Derived.Test.YtfdfjnepfgabaaaEmpG
set_option linter.all false
namespace Go.Proofs.Ytfdfjnepfgabaaa
open Go.RowKit

theorem push_no {p : List Ext} {y x : Ext} (h : oneB y x = false) : pushL (p ++ [y]) x = (p ++ [y]) ++ [x] := by rw [push_snoc, h]; rfl
theorem push_yes {p : List Ext} {y x : Ext} (h : oneB y x = true) : pushL (p ++ [y]) x = p ++ [{ y with len := y.len + x.len }] := by rw [push_snoc, h]; rfl
section
variable (w : World)
set_option maxRecDepth 100000 in
set_option maxHeartbeats 4000000 in
theorem rjoin_ (A : Option Addr) (n c : Nat) (l : List Ext) (h : Es w A n l) (hml : mays l) (hn : n ≤ 50000) :
    Calls Try.prog 43 #[.slice A n c] w fun e w' => ∃ v m, e = .returned v ∧ Eo w' w.heap.size v m (joinL l) ∧ mays (joinL l) ∧ Below w.heap.size w w' := by
  obtain ⟨i0, hi0, hz0, hz1, hz2⟩ := ext_info
  have Hz := Lib.hid hz2
  clear hz2
  have Hl := Lib.hid h.len
  have Hfold := Lib.hid (fold_join l)
  go_enter Try.func43, Try.ntmps43
  go_wp2_with fail
  go_loopw [3, 4] (fun fv iv wr => ∃ (k : Nat) (cur : List Ext), k ≤ n ∧ iv = .int .i64 (k : Int) ∧ Own wr w.heap.size fv cur k ∧ (l.drop k).foldl pushL cur = l.foldl pushL [] ∧ Below w.heap.size w wr) (fun _ iv _ => n - (intOf iv).toNat)
  case atStart => exact ⟨0, [], Nat.zero_le _, rfl, ⟨⟨0, eo_nil _ _⟩, mays_nil, Nat.le_refl _⟩, rfl, Below.refl _ _⟩
  case round =>
    obtain ⟨k, cur, hk, rfl, ⟨⟨nc, hO⟩, hcm, hcl⟩, hfold, hb⟩ := hrel
    have hnc := eo_len hO
    have hnc2 : nc ≤ 50000 := by omega
    have Hnc := Lib.hid hnc
    clear hnc
    have hbs := hb.size
    by_cases hlt : k < n
    · have hil : (k : Int) < (n : Int) := by omega
      have hk0 : (0 : Int) ≤ (k : Int) := by omega
      obtain ⟨q, o, rfl, x, hx, fx, d0, d1, d2, d3⟩ := (h.below hb).at_ hlt
      have hxm := hml x (List.mem_of_getElem? hx)
      have hxl := may_len hxm
      rw [drop_of hx] at hfold
      have Hf := Lib.hid (show (l.drop (k + 1)).foldl pushL (pushL cur x) = l.foldl pushL [] from hfold)
      have Hmay := Lib.hid (mays_push hcm hxm)
      have Hlen := Lib.hid (Nat.le_trans (push_length cur x) (Nat.succ_le_succ hcl))
      clear hfold h
      rcases snoc_cases cur with hc0 | ⟨p, y, hcy⟩
      · have Hp := Lib.hid (show pushL cur x = cur ++ [x] by subst hc0; rfl)
        have hn0 : nc = 0 := by rw [Hnc.out, hc0]; rfl
        obtain ⟨A5, c5, rfl, -, -, -⟩ := own_form hO
        subst hn0
        clear hc0
        go_wp2_with fail
        go_quiet (fail)
        have hOD : Eo (wr.drewN nq) w.heap.size (.slice A5 0 c5) 0 cur := hO
        have hbD : Below w.heap.size w (wr.drewN nq) := below_drewN hb nq
        have e0 : (wr.drewN nq).cell? ⟨q, o + k * 4, none⟩ = some (.int .i64 x.off) := d0
        have e1 : (wr.drewN nq).cell? ⟨q, o + k * 4 + 1, none⟩ = some (.int .i64 x.len) := d1
        have e2 : (wr.drewN nq).cell? ⟨q, o + k * 4 + 2, none⟩ = some (.int .i64 x.phys) := d2
        have e3 : (wr.drewN nq).cell? ⟨q, o + k * 4 + 3, none⟩ = some (.int .i64 x.birth) := d3
        have hbsD := hbD.size
        generalize wr.drewN nq = w2 at *
        go_wp2_with (first
          | (at_builtin
             go_must (refine wpList_app _ rfl (.tmp 42) (.tmp 47) _ rfl w.heap.size 57 i0 _ 4 32 Try.underlying22 hi0 hz0 hz1 Hz.out rfl (by decide) _ 0 _ rfl (own_keep hOD ((Below.refl _ _).alloc (Nat.le_refl _) _)) _ 1 1 (ev x) rfl (fun h => by cases h) (rd_one (by simp)) (by intro u hu; exact evs_one [x] u (by simpa [evs] using hu)) (by unfold maxLen; omega) (by omega) (by simp; omega) ?_)
             intro v3 w3 hown3 hg3 hat3
             have hO3 : Eo w3 w.heap.size v3 (0 + 1) (pushL cur x) := eo_of hown3 (by rw [Hp.out]; exact (evs_snoc _ _).symm)
             have hB3 : Below w.heap.size w w3 := (hbD.alloc hbD.size _).grown hg3 (by simp; omega) (own_from hOD)))
        go_roundw
        case rel => exact ⟨k + 1, _, by omega, by go_num, ⟨⟨0 + 1, hO3⟩, Hmay.out, Hlen.out⟩, Hf.out, hB3⟩
        case measure => simp [intOf]; omega
      · have hOy : Eo wr w.heap.size _ nc (p ++ [y]) := hcy ▸ hO
        obtain ⟨g, cap, blk, rfl, hncap, hcap, hbg, hnm, hblk, c0, c1, c2, c3, c4, hset⟩ := eo_set hOy
        have hym := hcm y (by rw [hcy]; simp)
        have hnear := near_of hym fx
        have hyl := may_len hym
        generalize hmp : p.length = m at *
        have Hmp := Lib.hid hmp
        have hw1 : IntKind.i64.wrap ((nc : Int) - 1) = (m : Int) := by rw [IntKind.wrap_i64]; omega
        have hm0 : (0 : Int) ≤ (m : Int) := by omega
        have hmn : (m : Int) < (nc : Int) := by omega
        have hpos : (0 : Int) < (nc : Int) := by omega
        have hposN : 0 < nc := by omega
        have hw2 : IntKind.i64.wrap (y.len + x.len) = y.len + x.len := by rw [IntKind.wrap_i64]; omega
        have Hnm := Lib.hid hnm
        clear hnm hmp hset hblk c4
        cases ho : oneB y x with
        | true =>
          have Hp := Lib.hid (show pushL cur x = p ++ [{ y with len := y.len + x.len }] by rw [hcy]; exact push_yes ho)
          clear hcy
          go_wp2_with fail
          go_region_held3 (fun w' => w'.cell? ⟨g, m * 4, none⟩ = some (.int .i64 y.off) ∧ w'.cell? ⟨g, m * 4 + 1, none⟩ = some (.int .i64 y.len) ∧ w'.cell? ⟨g, m * 4 + 2, none⟩ = some (.int .i64 y.phys) ∧ w'.cell? ⟨g, m * 4 + 3, none⟩ = some (.int .i64 y.birth) ∧
            w'.cell? ⟨q, o + k * 4, none⟩ = some (.int .i64 x.off) ∧ w'.cell? ⟨q, o + k * 4 + 1, none⟩ = some (.int .i64 x.len) ∧ w'.cell? ⟨q, o + k * 4 + 2, none⟩ = some (.int .i64 x.phys) ∧ w'.cell? ⟨q, o + k * 4 + 3, none⟩ = some (.int .i64 x.birth))
            (first | go_keep | exact ⟨c0, c1, c2, c3, d0, d1, d2, d3⟩ | exact ⟨(hb2.cell (cell_lt c0)).trans c0, (hb2.cell (cell_lt c1)).trans c1, (hb2.cell (cell_lt c2)).trans c2, (hb2.cell (cell_lt c3)).trans c3, (hb2.cell (cell_lt d0)).trans d0, (hb2.cell (cell_lt d1)).trans d1, (hb2.cell (cell_lt d2)).trans d2, (hb2.cell (cell_lt d3)).trans d3⟩)
            (first
              | (go_at_call 40; refine (rone_ _ y x hnear).mono ?_; rw [ho]; rintro e w2 ⟨rfl, hb2⟩))
          have hO2 : Eo w2 w.heap.size (.slice (some ⟨g, 0, none⟩) nc cap) nc (p ++ [y]) := own_keep (w := wr.drew) hOy hb2
          obtain ⟨g', cap', cur', e', -, -, -, -, hblk2, k0, k1, k2, k3, k4, hset2⟩ := eo_set hO2
          rw [Hmp.out] at k0 k1 k2 k3 k4 hset2
          injection e' with e' _ e3
          injection e' with e'
          injection e' with e1
          subst e1 e3
          have m1 := (hb2.cell (cell_lt d1)).trans d1
          have hB2 : Below w.heap.size w w2 := below_step hb (below_undrew hb2) (Nat.le_refl _)
          clear c0 c1 c2 c3 d0 d1 d2 d3
          go_wp2
          go_region
          go_wp2
          go_roundw
          case rel => exact ⟨k + 1, pushL cur x, by omega, by go_num, ⟨⟨nc, by rw [Hp.out]; exact hset2 _⟩, Hmay.out, Hlen.out⟩, Hf.out, (hB2.setCell hbg _).drew⟩
          case measure => simp [intOf]; omega
        | false =>
          have Hp := Lib.hid (show pushL cur x = cur ++ [x] by rw [hcy]; exact push_no ho)
          have HOy := Lib.hid hcy
          clear hcy
          go_wp2_with fail
          go_region_held3 (fun w' => w'.cell? ⟨g, m * 4, none⟩ = some (.int .i64 y.off) ∧ w'.cell? ⟨g, m * 4 + 1, none⟩ = some (.int .i64 y.len) ∧ w'.cell? ⟨g, m * 4 + 2, none⟩ = some (.int .i64 y.phys) ∧ w'.cell? ⟨g, m * 4 + 3, none⟩ = some (.int .i64 y.birth) ∧
            w'.cell? ⟨q, o + k * 4, none⟩ = some (.int .i64 x.off) ∧ w'.cell? ⟨q, o + k * 4 + 1, none⟩ = some (.int .i64 x.len) ∧ w'.cell? ⟨q, o + k * 4 + 2, none⟩ = some (.int .i64 x.phys) ∧ w'.cell? ⟨q, o + k * 4 + 3, none⟩ = some (.int .i64 x.birth))
            (first | go_keep | exact ⟨c0, c1, c2, c3, d0, d1, d2, d3⟩ | exact ⟨(hb2.cell (cell_lt c0)).trans c0, (hb2.cell (cell_lt c1)).trans c1, (hb2.cell (cell_lt c2)).trans c2, (hb2.cell (cell_lt c3)).trans c3, (hb2.cell (cell_lt d0)).trans d0, (hb2.cell (cell_lt d1)).trans d1, (hb2.cell (cell_lt d2)).trans d2, (hb2.cell (cell_lt d3)).trans d3⟩)
            (first
              | (go_at_call 40; refine (rone_ _ y x hnear).mono ?_; rw [ho]; rintro e w2 ⟨rfl, hb2⟩))
          have hO2 : Eo w2 w.heap.size (.slice (some ⟨g, 0, none⟩) nc cap) nc cur := own_keep (w := wr.drew) hO hb2
          have e0 := (hb2.cell (cell_lt d0)).trans d0
          have e1 := (hb2.cell (cell_lt d1)).trans d1
          have e2 := (hb2.cell (cell_lt d2)).trans d2
          have e3 := (hb2.cell (cell_lt d3)).trans d3
          have hB2 : Below w.heap.size w w2 := below_step hb (below_undrew hb2) (Nat.le_refl _)
          have hs2 := hB2.size
          clear c0 c1 c2 c3 d0 d1 d2 d3 hOy
          go_wp2_with (first
            | (at_builtin
               go_must (refine wpList_app _ rfl (.tmp 42) (.tmp 47) _ rfl w.heap.size 57 i0 _ 4 32 Try.underlying22 hi0 hz0 hz1 Hz.out rfl (by decide) _ nc _ rfl (own_keep hO2 ((Below.refl _ _).alloc (Nat.le_refl _) _)) _ 1 1 (ev x) rfl (fun h => by cases h) (rd_one (by simp)) (by intro u hu; exact evs_one [x] u (by simpa [evs] using hu)) (by unfold maxLen; omega) (by omega) (by simp; omega) ?_)
               intro v3 w3 hown3 hg3 hat3
               have hO3 : Eo w3 w.heap.size v3 (nc + 1) (pushL cur x) := eo_of hown3 (by rw [Hp.out]; exact (evs_snoc _ _).symm)
               have hB3 : Below w.heap.size w w3 := (hB2.alloc hB2.size _).grown hg3 (by simp; omega) (own_from hO2)))
          go_roundw
          case rel => exact ⟨k + 1, _, by omega, by go_num, ⟨⟨nc + 1, hO3⟩, Hmay.out, Hlen.out⟩, Hf.out, hB3⟩
          case measure => simp [intOf]; omega
    · have hin : (n : Int) ≤ (k : Int) := by omega
      have hd : l.drop k = [] := list_done Hl.out (by omega)
      rw [hd] at hfold
      have Hf := Lib.hid (show cur = joinL l from (show cur = _ from hfold).trans Hfold.out)
      clear hfold hd
      go_wp2
      go_ret
      rw [← Hf.out]
      exact ⟨_, nc, rfl, hO, hcm, hb⟩
end
end Go.Proofs.Ytfdfjnepfgabaaa

set_option linter.all false
namespace Go.Proofs.Ytfdfjnepfgabaaa
open Go.RowKit

section
variable (w : World)
set_option maxRecDepth 100000 in
set_option maxHeartbeats 4000000 in
theorem rpart_ (A : Option Addr) (n c : Nat) (l : List Ext) (a b : Int) (ha : I64 a) (hbb : I64 b) (h : Es w A n l) (hml : mays l) (hn : n ≤ 50000) :
    Calls Try.prog 42 #[.slice A n c, .int .i64 a, .int .i64 b] w fun e w' => ∃ v m, e = .returned v ∧ Eo w' w.heap.size v m (partL l a b) ∧ mays (partL l a b) ∧ m ≤ n ∧ Below w.heap.size w w' := by
  obtain ⟨i0, hi0, hz0, hz1, hz2⟩ := ext_info
  have Hz := Lib.hid hz2
  clear hz2
  have Hl := Lib.hid h.len
  unfold I64 at ha hbb
  go_enter Try.func42, Try.ntmps42
  go_wp2_with fail
  go_loopw [7, 8] (fun fv iv wr => ∃ (k : Nat) (cur : List Ext), k ≤ n ∧ iv = .int .i64 (k : Int) ∧ Own wr w.heap.size fv cur k ∧ cur ++ partL (l.drop k) a b = partL l a b ∧ Below w.heap.size w wr) (fun _ iv _ => n - (intOf iv).toNat)
  case atStart => exact ⟨0, [], Nat.zero_le _, rfl, ⟨⟨0, eo_nil _ _⟩, mays_nil, Nat.le_refl _⟩, rfl, Below.refl _ _⟩
  case round =>
    obtain ⟨k, cur, hk, rfl, ⟨⟨nc, hO⟩, hcm, hcl⟩, hfold, hb⟩ := hrel
    obtain ⟨A5, c5, rfl, -, -, -⟩ := own_form hO
    have hnc := eo_len hO
    have hnc2 : nc ≤ 50000 := by omega
    have Hnc := Lib.hid hnc
    clear hnc
    by_cases hlt : k < n
    · have hil : (k : Int) < (n : Int) := by omega
      have hk0 : (0 : Int) ≤ (k : Int) := by omega
      obtain ⟨q, o, rfl, x, hx, fx, d0, d1, d2, d3⟩ := (h.below hb).at_ hlt
      have hxm := hml x (List.mem_of_getElem? hx)
      have hxl := may_len hxm
      rw [drop_of hx, part_cons] at hfold
      have hba : Below wr.heap.size wr (wr.alloc (.cells #[.int .i64 x.off, .int .i64 x.len, .int .i64 x.phys, .int .i64 x.birth] 57)) := (Below.refl _ _).alloc (Nat.le_refl _) _
      have hac := Blk.new wr 57 #[.int .i64 x.off, .int .i64 x.len, .int .i64 x.phys, .int .i64 x.birth] rfl
      have hB1 := below_step hb hba (Nat.le_refl _)
      have hO1 := own_keep hO hba
      have hbs := hB1.size
      obtain ⟨lo, hlo⟩ : ∃ lo, max x.off a = lo := ⟨_, rfl⟩
      obtain ⟨hi, hhi⟩ : ∃ hi, min (x.off + x.len) b = hi := ⟨_, rfl⟩
      have hwx : IntKind.i64.wrap (x.off + x.len) = x.off + x.len := by rw [IntKind.wrap_i64]; omega
      by_cases hlh : lo < hi
      · have hc := clip_is hlo hhi hlh
        have Hcm := Lib.hid (clip_may hxm hc)
        rw [hc] at hfold
        have Hf := Lib.hid hfold
        have hw1 : IntKind.i64.wrap (hi - lo) = hi - lo := by rw [IntKind.wrap_i64]; omega
        have hw2 : IntKind.i64.wrap (x.phys + lo) = x.phys + lo := by rw [IntKind.wrap_i64]; omega
        have hw3 : IntKind.i64.wrap (x.phys + lo - x.off) = x.phys + lo - x.off := by rw [IntKind.wrap_i64]; omega
        clear hc hfold h hO
        go_wp2_with fail
        go_region
        have hOD : Eo (wr.alloc (.cells #[.int .i64 x.off, .int .i64 x.len, .int .i64 x.phys, .int .i64 x.birth] 57)).drew w.heap.size (.slice A5 nc c5) nc cur := hO1
        have hBD := hB1.drew
        have hsD : (wr.alloc (.cells #[.int .i64 x.off, .int .i64 x.len, .int .i64 x.phys, .int .i64 x.birth] 57)).drew.heap.size = wr.heap.size + 1 := by simp
        have e0 : (wr.alloc (.cells #[.int .i64 x.off, .int .i64 x.len, .int .i64 x.phys, .int .i64 x.birth] 57)).drew.cell? ⟨wr.heap.size, 0, none⟩ = some (.int .i64 x.off) := hac.cell rfl
        have e2 : (wr.alloc (.cells #[.int .i64 x.off, .int .i64 x.len, .int .i64 x.phys, .int .i64 x.birth] 57)).drew.cell? ⟨wr.heap.size, 2, none⟩ = some (.int .i64 x.phys) := hac.cell rfl
        have e3 : (wr.alloc (.cells #[.int .i64 x.off, .int .i64 x.len, .int .i64 x.phys, .int .i64 x.birth] 57)).drew.cell? ⟨wr.heap.size, 3, none⟩ = some (.int .i64 x.birth) := hac.cell rfl
        generalize (wr.alloc (.cells #[.int .i64 x.off, .int .i64 x.len, .int .i64 x.phys, .int .i64 x.birth] 57)).drew = w2 at *
        have hbs2 := hBD.size
        go_wp2_with (first
          | (at_builtin
             go_must (refine wpList_app _ rfl (.tmp 36) (.tmp 51) _ rfl w.heap.size 57 i0 _ 4 32 Try.underlying22 hi0 hz0 hz1 Hz.out rfl (by decide) _ nc _ rfl (own_keep hOD ((Below.refl _ _).alloc (Nat.le_refl _) _)) _ 1 1 (ev ⟨lo, hi - lo, x.phys + lo - x.off, x.birth⟩) rfl (fun h => by cases h) (rd_one (x := ⟨lo, hi - lo, x.phys + lo - x.off, x.birth⟩) hsD.symm) (by intro u hu; exact evs_one [_] u (by simpa [evs] using hu)) (by unfold maxLen; omega) (by omega) (by simp; omega) ?_)
             intro v3 w3 hown3 hg3 hat3
             have hO3 : Eo w3 w.heap.size v3 (nc + 1) (cur ++ [⟨lo, hi - lo, x.phys + lo - x.off, x.birth⟩]) := eo_of hown3 (evs_snoc _ _).symm
             have hB3 : Below w.heap.size w w3 := (hBD.alloc hBD.size _).grown hg3 (by simp; omega) (own_from hOD)))
        go_roundw
        case rel => exact ⟨k + 1, _, by omega, by go_num, ⟨⟨nc + 1, hO3⟩, mays_snoc hcm Hcm.out, by simp; omega⟩, by rw [← Hf.out]; simp, hB3⟩
        case measure => simp [intOf]; omega
      · have hc := clip_not hlo hhi hlh
        rw [hc] at hfold
        have Hf := Lib.hid hfold
        clear hc hfold h hO
        go_wp2_with fail
        go_region
        go_wp2
        go_roundw
        case rel => exact ⟨k + 1, cur, by omega, by go_num, ⟨⟨nc, hO1⟩, hcm, by omega⟩, Hf.out, hB1.drew⟩
        case measure => simp [intOf]; omega
    · have hin : (n : Int) ≤ (k : Int) := by omega
      have hd : l.drop k = [] := list_done Hl.out (by omega)
      rw [hd] at hfold
      have Hf := Lib.hid (show cur = partL l a b by rw [← hfold]; simp [partL])
      clear hfold hd
      go_wp2
      go_ret
      rw [← Hf.out]
      exact ⟨_, nc, rfl, hO, hcm, by have := Hnc.out; omega, hb⟩
end
end Go.Proofs.Ytfdfjnepfgabaaa

/- Layer 9: the document's all. -/
import Derived.Test.YtfdfjnepfgabaaaDelR
set_option linter.all false
namespace Go.Proofs.Ytfdfjnepfgabaaa
open Go.RowKit

theorem info_rb : (Try.prog.info? 73).map (fun i => (i.zero, i.size, i.bytes)) = some (some (.agg #[.bool false, .int .i64 0, .int .i64 0]), 3, 24) := by kernel_rfl
theorem rb_info : ∃ i, Try.prog.info? 73 = some i ∧ i.zero = some (.agg #[.bool false, .int .i64 0, .int .i64 0]) ∧ i.size = 3 ∧ i.bytes = 24 := by
  obtain ⟨i, hi, he⟩ := Option.map_eq_some_iff.1 info_rb
  simp only [Prod.mk.injEq] at he
  exact ⟨i, hi, he⟩
theorem size_rb : (Try.prog.info? 73).map (·.size) = some 3 := by
  obtain ⟨i, hi, _, h, _⟩ := rb_info
  rw [hi]
  exact congrArg some h
/-- The document's blocks, in a row. -/
def raN (n : Nat) (f : Int → Option (Int × Int)) : Array Value := (abs_ n fun i => f (i : Int)).toArray
theorem raN_size (n : Nat) (f : Int → Option (Int × Int)) : (raN n f).size = n * 3 := by unfold raN; rw [List.size_toArray, abs_len]
theorem raN_zero (n : Nat) : madeCells #[.bool false, .int .i64 0, .int .i64 0] (n * 3) = raN n fun _ => none := Array.toList_inj.1 (abs_none n)
abbrev rf1 (xs : List Bl) : Int → Option (Int × Int) := laid (fun x _ => some x.2) (fun _ => none) xs
theorem rf1_snoc (xs : List Bl) (x : Bl) : rf1 (xs ++ [x]) = fun j => if j = x.1 then some x.2 else rf1 xs j := by
  unfold rf1
  rw [laid_snoc]
  rfl
theorem rf1_at {a : List Ext} {lo : Int} (h : listFrom lo a = true) : rf1 (bkL a) = atL a := by
  funext j
  unfold rf1
  rw [laid_bk _ h]
  unfold atG
  cases atL a j <;> rfl
theorem raN_set {w : World} {g n p : Nat} {xs : List Bl} {u r : Int} (h : Blk w g 73 (raN n (rf1 xs))) (hp : p < n) :
    Blk (w.setCells g (p * 3) [.bool true, .int .i64 u, .int .i64 r]) g 73 (raN n (rf1 (xs ++ [((p : Int), u, r)]))) := by
  have h1 := h.sets (vs := [.bool true, .int .i64 u, .int .i64 r]) (o := p * 3) (by rw [raN_size]; simp; omega)
  have h2 := abs_set (n := n) (p := p) (f := fun i => rf1 xs (i : Int)) (f' := fun i => rf1 (xs ++ [((p : Int), u, r)]) (i : Int)) hp (some (u, r)) (by
    funext i
    rw [rf1_snoc]
    show (if (i : Int) = (p : Int) then some (u, r) else rf1 xs (i : Int)) = _
    by_cases e : i = p
    · rw [if_pos (by omega), if_pos e]
    · rw [if_neg (by omega), if_neg e])
  unfold raN
  rw [← h2]
  exact h1
section
variable (w : World)
set_option maxRecDepth 100000 in
set_option maxHeartbeats 4000000 in
theorem rall_ (A : Option Addr) (n c : Nat) (l : List Ext) (h : Es w A n l) (hr : rightB l = true) :
    Calls Try.prog 28 #[.slice A n c] w fun e w' => e = .returned (.slice (some ⟨w.heap.size, 0, none⟩) 1024 1024) ∧ Blk w' w.heap.size 73 (raN 1024 (atL l)) ∧ Below w.heap.size w w' := by
  obtain ⟨i0, hi0, hz0, hz1, hz2⟩ := rb_info
  have Hz := Lib.hid hz2
  clear hz2
  have Hl := Lib.hid h.len
  have hn : n ≤ 1024 := by have := right_short hr; have := Hl.out; omega
  have hml := mays_right hr
  have Hr := Lib.hid (right_is.1 hr).1
  obtain ⟨g, hg⟩ : ∃ g, w.heap.size = g := ⟨_, rfl⟩
  go_enter Try.func28, Try.ntmps28
  go_wp2_with (first
    | (at_make
       refine wpList_make_blk _ rfl _ _ 70 rfl 73 i0 _ 3 24 Try.underlying70 hi0 hz0 hz1 Hz.out .i64 .i64 _ _ 1024 rfl rfl rfl rfl (by omega) (by omega) ?_
       intro w3 hk3 hb3 hs3))
  have hk4 : Blk w3 g 73 (raN 1024 (rf1 [])) := by
    rw [← hg]
    have e := raN_zero 1024
    rw [← show (fun _ => none) = rf1 [] from rfl, ← e]
    exact hk3
  have hb4 : Below g w w3 := by rw [← hg]; exact hb3
  have Hg := Lib.hid hg
  clear hk3 hb3 hs3 hg
  go_loopw [4] (fun iv wr => ∃ i : Nat, i ≤ n ∧ iv = .int .i64 (i : Int) ∧ Blk wr g 73 (raN 1024 (rf1 (bkL (l.take i)))) ∧ Below g w wr) (fun iv _ => n - (intOf iv).toNat)
  case atStart => exact ⟨0, Nat.zero_le _, rfl, hk4, hb4⟩
  case round =>
    obtain ⟨i, hi, rfl, hk, hb⟩ := hrel
    clear hk4 hb4
    by_cases hlt : i < n
    · have hil : (i : Int) < (n : Int) := by omega
      have hi0' : (0 : Int) ≤ (i : Int) := by omega
      have her : Es wr A n l := h.below (by rw [Hg.out]; exact hb)
      obtain ⟨b, o, rfl, x, hx, fx, c0, c1, c2, c3⟩ := her.at_ hlt
      have hbg : b < g := by
        obtain ⟨b', o', e', _, _, _, c0', _⟩ := h.at_ hlt
        cases e'
        have := cell_lt c0'
        rw [Hg.out] at this
        exact this
      have hxl := may_len (hml x (List.mem_of_getElem? hx))
      obtain ⟨q, hq⟩ := Int.eq_ofNat_of_zero_le (show 0 ≤ x.len by omega)
      obtain ⟨xo, hxo⟩ := Int.eq_ofNat_of_zero_le (show 0 ≤ x.off by omega)
      have Hs := Lib.hid (bkL_take hx)
      have hq1 : q ≤ 1024 := by omega
      have Hq := Lib.hid hq
      have Hxo := Lib.hid hxo
      rw [hq] at c1
      clear hq hxo hx her
      go_wp2_with fail
      go_loopw [5] (fun kv wx => ∃ k : Nat, k ≤ q ∧ kv = .int .i64 (k : Int) ∧ Blk wx g 73 (raN 1024 (rf1 (bkL (l.take i) ++ bkTo x k))) ∧ Below g w wx ∧ wx.cell? ⟨b, o + i * 4, none⟩ = some (.int .i64 x.off) ∧ wx.cell? ⟨b, o + i * 4 + 1, none⟩ = some (.int .i64 (q : Int)) ∧ wx.cell? ⟨b, o + i * 4 + 2, none⟩ = some (.int .i64 x.phys) ∧ wx.cell? ⟨b, o + i * 4 + 3, none⟩ = some (.int .i64 x.birth)) (fun kv _ => q - (intOf kv).toNat)
      case atStart => exact ⟨0, Nat.zero_le _, rfl, by rw [bkTo_zero, List.append_nil]; exact hk, hb, c0, c1, c2, c3⟩
      case round =>
        obtain ⟨k, hk1, rfl, hkb, hbb, c0, c1, c2, c3⟩ := hrel
        clear hk hb
        by_cases hkq : k < q
        · have hkl : (k : Int) < (q : Int) := by omega
          have hk0 : (0 : Int) ≤ (k : Int) := by omega
          obtain ⟨p, hp⟩ : ∃ p, p = xo + k := ⟨_, rfl⟩
          have hw1 : IntKind.i64.wrap (x.off + (k : Int)) = (p : Int) := by rw [IntKind.wrap_i64]; have := Hxo.out; have := Hq.out; omega
          have hw2 : IntKind.i64.wrap (x.phys + (k : Int)) = x.phys + (k : Int) := by rw [IntKind.wrap_i64]; have := Hq.out; omega
          have hp0 : (0 : Int) ≤ (p : Int) := by omega
          have hp1 : p < 1024 := by have := Hq.out; have := Hxo.out; omega
          have hp2 : (p : Int) < 1024 := by omega
          have Hp := Lib.hid (show x.off + (k : Int) = (p : Int) by have := Hxo.out; omega)
          clear hp
          go_wp2_with fail
          obtain ⟨W1, hW1⟩ : ∃ W1, wr.drew = W1 := ⟨_, rfl⟩
          have hkb1 : Blk W1 g 73 (raN 1024 (rf1 (bkL (l.take i) ++ bkTo x k))) := by rw [← hW1]; exact hkb
          have hth : W1.there g (p * 3) 3 := hkb1.there _ _ (by rw [raN_size]; omega)
          have hset := raN_set (u := x.phys + (k : Int)) (r := x.birth) hkb1 hp1
          have hTn := Tn.sets (Nat.le_refl g) (Nat.lt_succ_self g) [.bool true, .int .i64 (x.phys + (k : Int)), .int .i64 x.birth] (p * 3) W1
          have g0 : W1.cell? ⟨b, o + i * 4, none⟩ = some (.int .i64 x.off) := by rw [← hW1]; exact c0
          have g1 : W1.cell? ⟨b, o + i * 4 + 1, none⟩ = some (.int .i64 (q : Int)) := by rw [← hW1]; exact c1
          have g2 : W1.cell? ⟨b, o + i * 4 + 2, none⟩ = some (.int .i64 x.phys) := by rw [← hW1]; exact c2
          have g3 : W1.cell? ⟨b, o + i * 4 + 3, none⟩ = some (.int .i64 x.birth) := by rw [← hW1]; exact c3
          have f0 := hTn.cell g0 (.inl hbg)
          have f1 := hTn.cell g1 (.inl hbg)
          have f2 := hTn.cell g2 (.inl hbg)
          have f3 := hTn.cell g3 (.inl hbg)
          have hB1 : Below g w W1 := by rw [← hW1]; exact ⟨hbb.os, hbb.tape, hbb.output, hbb.size, hbb.block⟩
          have hB2 : Below g w (W1.setCells g (p * 3) [.bool true, .int .i64 (x.phys + (k : Int)), .int .i64 x.birth]) := hB1.trans (hTn.below (Nat.le_refl g) (by have := hkb1.lt; omega))
          clear hkb hbb hkb1 hTn hB1
          refine wp_region_noPanic ?_
          refine wp_region_held_drew (S := (fun w0 => w0.cell? ⟨b, o + i * 4, none⟩ = some (.int .i64 x.off) ∧ w0.cell? ⟨b, o + i * 4 + 2, none⟩ = some (.int .i64 x.phys) ∧ w0.cell? ⟨b, o + i * 4 + 3, none⟩ = some (.int .i64 x.birth))) (by kernel_rfl) (by rw [hW1]; exact ⟨g0, g2, g3⟩) (fun _ => ?_)
          rw [hW1]
          refine wpAnyH_take (i := 0) (oi := _) (v := ?_) rfl (by kernel_rfl) (by kernel_rfl) (by kernel_rfl) (fun _ _ _ h => h) (Or.inl ⟨by kernel_rfl, ?_⟩) ⟨g0, g2, g3⟩ ?_
          rotate_left
          · (rintro w ⟨z0, z2, z3⟩; go_simp; (first | done | rfl))
          try simp only [Act.put, List.getElem_toArray, List.getElem_cons_zero, List.getElem_cons_succ, List.setIfInBounds_toArray, List.set_cons_zero, List.set_cons_succ]
          refine wpAnyH_take (i := 1) (oi := _) (v := ?_) rfl (by kernel_rfl) (by kernel_rfl) (by kernel_rfl) (fun _ _ _ h => h) (Or.inl ⟨by kernel_rfl, ?_⟩) ⟨g0, g2, g3⟩ ?_
          rotate_left
          · (rintro w ⟨z0, z2, z3⟩; go_simp; (first | done | rfl))
          try simp only [Act.put, List.getElem_toArray, List.getElem_cons_zero, List.getElem_cons_succ, List.setIfInBounds_toArray, List.set_cons_zero, List.set_cons_succ]
          refine wpAnyH_take (i := 2) (oi := _) (v := ?_) rfl (by kernel_rfl) (by kernel_rfl) (by kernel_rfl) (fun _ _ _ h => h) (Or.inl ⟨by kernel_rfl, ?_⟩) ⟨g0, g2, g3⟩ ?_
          rotate_left
          · (rintro w ⟨z0, z2, z3⟩; go_simp; (first | done | rfl))
          try simp only [Act.put, List.getElem_toArray, List.getElem_cons_zero, List.getElem_cons_succ, List.setIfInBounds_toArray, List.set_cons_zero, List.set_cons_succ]
          refine wpAnyH_take (i := 3) (oi := _) (v := ?_) rfl (by kernel_rfl) (by kernel_rfl) (by kernel_rfl) (fun _ _ _ h => h) (Or.inl ⟨by kernel_rfl, ?_⟩) ⟨g0, g2, g3⟩ ?_
          rotate_left
          · (rintro w ⟨z0, z2, z3⟩; go_simp; (first | done | rfl))
          try simp only [Act.put, List.getElem_toArray, List.getElem_cons_zero, List.getElem_cons_succ, List.setIfInBounds_toArray, List.set_cons_zero, List.set_cons_succ]
          refine wpAnyH_take (i := 4) (oi := _) (v := ?_) rfl (by kernel_rfl) (by kernel_rfl) (by kernel_rfl) (fun _ _ _ h => h) (Or.inl ⟨by kernel_rfl, ?_⟩) ⟨g0, g2, g3⟩ ?_
          rotate_left
          · (rintro w ⟨z0, z2, z3⟩; go_simp; (first | done | rfl))
          try simp only [Act.put, List.getElem_toArray, List.getElem_cons_zero, List.getElem_cons_succ, List.setIfInBounds_toArray, List.set_cons_zero, List.set_cons_succ]
          refine wpAnyH_take (i := 5) (oi := _) (v := ?_) rfl (by kernel_rfl) (by kernel_rfl) (by kernel_rfl) (fun _ _ _ h => h) (Or.inl ⟨by kernel_rfl, ?_⟩) ⟨g0, g2, g3⟩ ?_
          rotate_left
          · (rintro w ⟨z0, z2, z3⟩; go_simp; (first | done | rfl))
          try simp only [Act.put, List.getElem_toArray, List.getElem_cons_zero, List.getElem_cons_succ, List.setIfInBounds_toArray, List.set_cons_zero, List.set_cons_succ]
          refine wpAnyH_take (i := 6) (oi := _) (v := ?_) rfl (by kernel_rfl) (by kernel_rfl) (by kernel_rfl) (fun _ _ _ h => h) (Or.inl ⟨by kernel_rfl, ?_⟩) ⟨g0, g2, g3⟩ ?_
          rotate_left
          · (rintro w ⟨z0, z2, z3⟩; go_simp; (first | done | rfl))
          try simp only [Act.put, List.getElem_toArray, List.getElem_cons_zero, List.getElem_cons_succ, List.setIfInBounds_toArray, List.set_cons_zero, List.set_cons_succ]
          refine wpAnyH_take (i := 7) (oi := _) (v := ?_) rfl (by kernel_rfl) (by kernel_rfl) (by kernel_rfl) (fun _ _ _ h => h) (Or.inl ⟨by kernel_rfl, ?_⟩) ⟨g0, g2, g3⟩ ?_
          rotate_left
          · (rintro w ⟨z0, z2, z3⟩; go_simp; (first | done | rfl))
          try simp only [Act.put, List.getElem_toArray, List.getElem_cons_zero, List.getElem_cons_succ, List.setIfInBounds_toArray, List.set_cons_zero, List.set_cons_succ]
          refine wpAnyH_take (i := 8) (oi := _) (v := ?_) rfl (by kernel_rfl) (by kernel_rfl) (by kernel_rfl) (fun _ _ _ h => h) (Or.inl ⟨by kernel_rfl, ?_⟩) ⟨g0, g2, g3⟩ ?_
          rotate_left
          · (rintro w ⟨z0, z2, z3⟩; go_simp; (first | done | rfl))
          try simp only [Act.put, List.getElem_toArray, List.getElem_cons_zero, List.getElem_cons_succ, List.setIfInBounds_toArray, List.set_cons_zero, List.set_cons_succ]
          refine wpAnyH_take (i := 9) (oi := _) (v := ?_) rfl (by kernel_rfl) (by kernel_rfl) (by kernel_rfl) (fun _ _ _ h => h) (Or.inl ⟨by kernel_rfl, ?_⟩) ⟨g0, g2, g3⟩ ?_
          rotate_left
          · (rintro w ⟨z0, z2, z3⟩; go_simp; (first | done | rfl))
          try simp only [Act.put, List.getElem_toArray, List.getElem_cons_zero, List.getElem_cons_succ, List.setIfInBounds_toArray, List.set_cons_zero, List.set_cons_succ]
          refine wpAnyH_take (i := 10) (oi := _) (v := ?_) rfl (by kernel_rfl) (by kernel_rfl) (by kernel_rfl) (fun _ _ _ h => h) (Or.inl ⟨by kernel_rfl, ?_⟩) ⟨g0, g2, g3⟩ ?_
          rotate_left
          · (rintro w ⟨z0, z2, z3⟩; go_simp; (first | done | rfl))
          try simp only [Act.put, List.getElem_toArray, List.getElem_cons_zero, List.getElem_cons_succ, List.setIfInBounds_toArray, List.set_cons_zero, List.set_cons_succ]
          refine wpAnyH_take (i := 11) (oi := _) (v := ?_) rfl (by kernel_rfl) (by kernel_rfl) (by kernel_rfl) (fun _ _ _ h => h) (Or.inl ⟨by kernel_rfl, ?_⟩) ⟨g0, g2, g3⟩ ?_
          rotate_left
          · (rintro w ⟨z0, z2, z3⟩; go_simp; (first | done | rfl))
          try simp only [Act.put, List.getElem_toArray, List.getElem_cons_zero, List.getElem_cons_succ, List.setIfInBounds_toArray, List.set_cons_zero, List.set_cons_succ]
          refine wpAnyH_take (i := 12) (oi := _) (v := ?_) rfl (by kernel_rfl) (by kernel_rfl) (by kernel_rfl) (fun _ _ _ h => h) (Or.inl ⟨by kernel_rfl, ?_⟩) ⟨g0, g2, g3⟩ ?_
          rotate_left
          · (rintro w ⟨z0, z2, z3⟩; go_simp; (first | done | rfl))
          try simp only [Act.put, List.getElem_toArray, List.getElem_cons_zero, List.getElem_cons_succ, List.setIfInBounds_toArray, List.set_cons_zero, List.set_cons_succ]
          refine wpAnyH_take (i := 13) (oi := _) (v := ?_) rfl (by kernel_rfl) (by kernel_rfl) (by kernel_rfl) (fun _ _ _ h => h) (Or.inl ⟨by kernel_rfl, ?_⟩) ⟨g0, g2, g3⟩ ?_
          rotate_left
          · (rintro w ⟨z0, z2, z3⟩; go_simp; (first | done | rfl))
          try simp only [Act.put, List.getElem_toArray, List.getElem_cons_zero, List.getElem_cons_succ, List.setIfInBounds_toArray, List.set_cons_zero, List.set_cons_succ]
          refine wpAnyH_take (i := 14) (oi := _) (v := ?_) rfl (by kernel_rfl) (by kernel_rfl) (by kernel_rfl) (fun _ _ _ h => h) (Or.inl ⟨by kernel_rfl, ?_⟩) ⟨g0, g2, g3⟩ ?_
          rotate_left
          · (rintro w ⟨z0, z2, z3⟩; go_simp; (first | done | rfl))
          try simp only [Act.put, List.getElem_toArray, List.getElem_cons_zero, List.getElem_cons_succ, List.setIfInBounds_toArray, List.set_cons_zero, List.set_cons_succ]
          refine wpAnyH_take (i := 15) (oi := _) (v := ?_) rfl (by kernel_rfl) (by kernel_rfl) (by kernel_rfl) (fun _ _ _ h => h) (Or.inl ⟨by kernel_rfl, ?_⟩) ⟨g0, g2, g3⟩ ?_
          rotate_left
          · (rintro w ⟨z0, z2, z3⟩; go_simp; (first | done | rfl))
          try simp only [Act.put, List.getElem_toArray, List.getElem_cons_zero, List.getElem_cons_succ, List.setIfInBounds_toArray, List.set_cons_zero, List.set_cons_succ]
          refine wpAnyH_take (i := 16) (oi := _) (v := ?_) rfl (by kernel_rfl) (by kernel_rfl) (by kernel_rfl) (fun _ _ _ h => h) (Or.inl ⟨by kernel_rfl, ?_⟩) ⟨g0, g2, g3⟩ ?_
          rotate_left
          · (rintro w ⟨z0, z2, z3⟩; go_simp; (first | done | rfl))
          try simp only [Act.put, List.getElem_toArray, List.getElem_cons_zero, List.getElem_cons_succ, List.setIfInBounds_toArray, List.set_cons_zero, List.set_cons_succ]
          refine wpAnyH_take (i := 17) (oi := _) (v := ?_) rfl (by kernel_rfl) (by kernel_rfl) (by kernel_rfl) (fun _ _ _ h => h) (Or.inl ⟨by kernel_rfl, ?_⟩) ⟨g0, g2, g3⟩ ?_
          rotate_left
          · (rintro w ⟨z0, z2, z3⟩; go_simp; (first | done | rfl))
          try simp only [Act.put, List.getElem_toArray, List.getElem_cons_zero, List.getElem_cons_succ, List.setIfInBounds_toArray, List.set_cons_zero, List.set_cons_succ]
          refine wpAnyH_take (i := 18) (oi := _) (v := ?_) rfl (by kernel_rfl) (by kernel_rfl) (by kernel_rfl) (fun _ _ _ h => h) (Or.inl ⟨by kernel_rfl, ?_⟩) ⟨g0, g2, g3⟩ ?_
          rotate_left
          · (rintro w ⟨z0, z2, z3⟩; go_simp; (first | done | rfl))
          try simp only [Act.put, List.getElem_toArray, List.getElem_cons_zero, List.getElem_cons_succ, List.setIfInBounds_toArray, List.set_cons_zero, List.set_cons_succ]
          refine wpAnyH_take (i := 19) (oi := _) (v := ?_) rfl (by kernel_rfl) (by kernel_rfl) (by kernel_rfl) (fun _ _ _ h => h) (Or.inl ⟨by kernel_rfl, ?_⟩) ⟨g0, g2, g3⟩ ?_
          rotate_left
          · (rintro w ⟨z0, z2, z3⟩; go_simp; (first | done | rfl))
          try simp only [Act.put, List.getElem_toArray, List.getElem_cons_zero, List.getElem_cons_succ, List.setIfInBounds_toArray, List.set_cons_zero, List.set_cons_succ]
          refine wpAnyH_take (i := 20) (oi := _) (v := ?_) rfl (by kernel_rfl) (by kernel_rfl) (by kernel_rfl) (fun _ _ _ h => h) (Or.inl ⟨by kernel_rfl, ?_⟩) ⟨g0, g2, g3⟩ ?_
          rotate_left
          · (rintro w ⟨z0, z2, z3⟩; go_simp; (first | done | rfl))
          try simp only [Act.put, List.getElem_toArray, List.getElem_cons_zero, List.getElem_cons_succ, List.setIfInBounds_toArray, List.set_cons_zero, List.set_cons_succ]
          refine wpAnyH_take (i := 21) (oi := _) (v := ?_) rfl (by kernel_rfl) (by kernel_rfl) (by kernel_rfl) (fun _ _ _ h => h) (Or.inl ⟨by kernel_rfl, ?_⟩) ⟨g0, g2, g3⟩ ?_
          rotate_left
          · (rintro w ⟨z0, z2, z3⟩; go_simp; (first | done | rfl))
          try simp only [Act.put, List.getElem_toArray, List.getElem_cons_zero, List.getElem_cons_succ, List.setIfInBounds_toArray, List.set_cons_zero, List.set_cons_succ]
          refine wpAnyH_ready (rs := [22]) (by kernel_rfl) (by simp) (AllReadyH.cons (o := _) rfl (fun K hK => ?_) AllReadyH.nil)
          rw [if_pos (by kernel_rfl)]
          refine wp_store_mid 73 _ _ rfl g (p * 3) #[.bool true, .int .i64 (x.phys + (k : Int)), .int .i64 x.birth] rfl rfl hth size_rb (all_oneCell_toArray (cs := [.bool true, .int .i64 (x.phys + (k : Int)), .int .i64 x.birth]) (by simp [Value.oneCell'])) ?_
          refine hK.out _ _ ⟨f0, f2, f3⟩ (fun _ => ?_)
          clear hK K
          try simp only [Act.put, List.getElem_toArray, List.getElem_cons_zero, List.getElem_cons_succ, List.setIfInBounds_toArray, List.set_cons_zero, List.set_cons_succ]
          refine wpAnyH_done (by kernel_rfl) ?_ _
          refine NoPanic.normal ?_
          have Hcon := Lib.hid (show bkL (l.take i) ++ bkTo x k ++ [((p : Int), x.phys + (k : Int), x.birth)] = bkL (l.take i) ++ bkTo x (k + 1) by rw [bkTo_succ, Hp.out, List.append_assoc])
          rw [Hcon.out] at hset
          generalize (W1.setCells g (p * 3) [.bool true, .int .i64 (x.phys + (k : Int)), .int .i64 x.birth]) = W2 at *
          clear hth
          go_wp2
          go_roundw
          case rel => exact ⟨k + 1, by omega, by go_num, hset, hB2, f0, f1, f2, f3⟩
          case measure => simp [intOf]; omega
        · have hkn : (q : Int) ≤ (k : Int) := by omega
          have hke : k = q := by omega
          have Hke := Lib.hid (show bkL (l.take i) ++ bkTo x k = bkL (l.take (i + 1)) by rw [Hs.out, hke, Hq.out, Int.toNat_natCast])
          clear hke
          rw [Hke.out] at hkb
          go_wp2
          go_roundw
          case rel => exact ⟨i + 1, by omega, by go_num, hkb, hbb⟩
          case measure => simp [intOf]; omega
    · have hin : (n : Int) ≤ (i : Int) := by omega
      have hta : l.take i = l := List.take_of_length_le (by have := Hl.out; omega)
      rw [hta, rf1_at Hr.out] at hk
      clear hta
      go_wp2
      go_ret
      rw [Hg.out]
      exact ⟨rfl, hk, hb⟩
end
end Go.Proofs.Ytfdfjnepfgabaaa

/- Layer 7: a forest's At. -/
import Derived.Test.YtiehhmchokbafaaCowW
set_option linter.all false
namespace Go.Proofs.Ytiehhmchokbafaa
open Go.RowKit

theorem at_one {x : Ext} (hx : x.may = true) (o : Int) : atR [x] o = if x.off ≤ o ∧ o < x.off + x.len then some (x.phys + o - x.off, x.birth) else none := by
  have hr : rightB [x] = true := right_is.2 ⟨by rw [listFrom_cons]; exact ⟨hx, (may_len hx).2.1, rfl⟩, rfl⟩
  unfold atR
  rw [if_pos hr]
  by_cases c : x.off ≤ o ∧ o < x.off + x.len
  · rw [if_pos c, at_head c]
  · rw [if_neg c, at_tail c]; rfl
section
variable (w : World) (B f : Nat) (ls : List Root)
set_option maxRecDepth 100000 in
set_option maxHeartbeats 2000000 in
theorem atG (p : Option Addr) (r o : Int) (fo : I64 o) (a : Option Addr) (t : Tr) (er : Int) (hT : Tree w All a t) (hl : listFrom 0 t.list = true)
    (ht : Calls Try.prog 33 #[.pointer p, .int .i64 r] w fun e w' => e = .returned (.tuple #[.agg #[.pointer a], .int .i64 er]) ∧ Below w.heap.size w w') :
    Calls Try.prog 19 #[.pointer p, .int .i64 r, .int .i64 o] w fun e w' => e = .returned (.tuple (atV (atL t.list o))) ∧ Below w.heap.size w w' := by
  go_enter Try.func19, Try.ntmps19
  go_wp2_with fail
  refine ht.mono ?_
  rintro e w2 ⟨rfl, hb2⟩
  clear ht
  have m0 := Blk.new w2 70 #[.pointer a] rfl
  have hb3 := hb2.alloc hb2.size (.cells #[.pointer a] 70)
  have hT3 := hT.below hb3
  have hq := hb2.size
  go_wp2_with fail
  generalize w2.alloc (.cells #[.pointer a] 70) = w3 at *
  generalize w2.heap.size = q at *
  clear hb2 hT
  have hlt3 := m0.lt
  go_loopw [20] (fun _ wr => ∃ (cur : Option Addr) (t' : Tr) (lo : Int), Blk wr q 70 #[.pointer cur] ∧ Tree wr All cur t' ∧ listFrom lo t'.list = true ∧ atL t.list o = atL t'.list o ∧ Tn q (q + 1) w3 wr) (fun _ wr => cntAt wr q)
  case atStart => exact ⟨a, t, 0, m0, hT3, hl, rfl, Tn.refl _ _ _⟩
  case round =>
    obtain ⟨cur, t', lo, hb, hT', hl', ha, hF⟩ := hrel
    have hwr : Below w.heap.size w wr := hb3.trans (hF.below hq hb3.size)
    have hcnt := cntAt_tree All hb hT'
    have hqlt := hb.lt
    clear m0 hT3 hl
    cases t' with
    | nil =>
      have hc : cur = none := hT'
      subst hc
      have Ha := Lib.hid (show atL t.list o = none from ha)
      have e0 := hb.cell (j := 0) (u := .pointer none) rfl
      clear ha hT'
      go_wp2
      go_ret3
      rw [Ha.out]
      exact ⟨rfl, hwr⟩
    | node nw L kx R =>
      obtain ⟨l1, l2, l3, l4, l5⟩ := listFrom_mid (show listFrom lo (L.list ++ kx :: R.list) = true from hl')
      have hmid := at_mid (i := o) (show listFrom lo (L.list ++ kx :: R.list) = true from hl')
      have hone := at_one l3 o
      have hkl := may_len l3
      have hT0 := hT'
      obtain ⟨bl, aL, aR, rfl, hbl, fkx, -, hL, hR⟩ := hT'
      rw [list_node, hmid] at ha
      have e0 := hb.cell (j := 0) (u := .pointer (some ⟨bl, 0, none⟩)) rfl
      have e1 := hbl.cell (j := 0) (u := .int .i64 kx.off) rfl
      have e2 := hbl.cell (j := 1) (u := .int .i64 kx.len) rfl
      have e3 := hbl.cell (j := 2) (u := .int .i64 kx.phys) rfl
      have e4 := hbl.cell (j := 3) (u := .int .i64 kx.birth) rfl
      have hE : Es (wr.alloc (.cells #[.int .i64 kx.off, .int .i64 kx.len, .int .i64 kx.phys, .int .i64 kx.birth] 24)) (some ⟨wr.heap.size, 0, none⟩) 1 [kx] := ⟨Rd.new wr #[.int .i64 kx.off, .int .i64 kx.len, .int .i64 kx.phys, .int .i64 kx.birth] 24 (0, 0) rfl, fun y hy => by rw [List.mem_singleton.1 hy]; exact fkx⟩
      have hbx : Below wr.heap.size wr (wr.alloc (.cells #[.int .i64 kx.off, .int .i64 kx.len, .int .i64 kx.phys, .int .i64 kx.birth] 24)) := (Below.refl _ _).alloc (Nat.le_refl _) _
      clear hmid hl'
      by_cases c : kx.off ≤ o ∧ o < kx.off + kx.len
      · rw [if_neg (by omega), if_pos c.2] at ha
        rw [if_pos c] at hone
        have Ha := Lib.hid ha
        have Ho := Lib.hid hone
        clear ha hone c
        go_wp2_with fail
        refine (at_ _ (some ⟨wr.heap.size, 0, none⟩) 1 1 [kx] o hE (by omega) fo).mono ?_
        rw [Ho.out]
        rintro e w5 ⟨rfl, hb5⟩
        unfold atV
        go_wp2
        go_ret3
        rw [Ha.out]
        have hbr := hbx.trans (hb5.mono hbx.size)
        exact ⟨rfl, hwr.trans (hbr.mono hwr.size)⟩
      · rw [if_neg c] at hone
        have Ho := Lib.hid hone
        by_cases c2 : o < kx.off
        · rw [if_pos c2] at ha
          have Ha := Lib.hid ha
          have Hc := Lib.hid c2
          clear ha hone c c2
          go_wp2_with fail
          refine (at_ _ (some ⟨wr.heap.size, 0, none⟩) 1 1 [kx] o hE (by omega) fo).mono ?_
          rw [Ho.out]
          rintro e w5 ⟨rfl, hb5⟩
          have hbr := hbx.trans (hb5.mono hbx.size)
          have f0 := (hb.keep hbr).cell (j := 0) (u := .pointer (some ⟨bl, 0, none⟩)) rfl
          unfold atV
          clear e0 e1 e2 e3 e4
          go_wp2_with fail
          refine (toward_lo bl aL aR kx _ _ o w5 (hbl.keep hbr) Hc.out).mono ?_
          rintro e w6 ⟨rfl, hb6⟩
          have hbr6 := hbr.trans (hb6.mono hbr.size)
          have hb6q := hb.keep hbr6
          have g0 := hb6q.cell (j := 0) (u := .pointer (some ⟨bl, 0, none⟩)) rfl
          have gf := hb6q.free 0
          have hTn : Tn q (q + 1) w6 (w6.setCell ⟨q, 0, none⟩ (.pointer aL)) := Tn.set _ _ _ (Nat.le_refl _) (Nat.lt_succ_self _)
          have hTL := (hL.below hbr6).var hb6q hTn
          go_wp2
          go_roundw
          case rel => exact ⟨aL, L, lo, hb6q.setCell 0 (.pointer aL), hTL, l1, Ha.out, (hF.trans (Tn.ofBelow hbr6 (Nat.le_refl _))).trans hTn⟩
          case measure => rw [hcnt, cntAt_tree All (hb6q.setCell 0 (.pointer aL)) hTL]; simp only [Tr.size]; omega
        · rw [if_neg c2, if_neg (by omega)] at ha
          have Ha := Lib.hid ha
          have Hc := Lib.hid c2
          clear ha hone c c2
          go_wp2_with fail
          refine (at_ _ (some ⟨wr.heap.size, 0, none⟩) 1 1 [kx] o hE (by omega) fo).mono ?_
          rw [Ho.out]
          rintro e w5 ⟨rfl, hb5⟩
          have hbr := hbx.trans (hb5.mono hbx.size)
          have f0 := (hb.keep hbr).cell (j := 0) (u := .pointer (some ⟨bl, 0, none⟩)) rfl
          unfold atV
          clear e0 e1 e2 e3 e4
          go_wp2_with fail
          have hc' : ¬ o < kx.off := by have := Hc.out; omega
          refine (toward_hi bl aL aR kx _ _ o w5 (hbl.keep hbr) hc').mono ?_
          rintro e w6 ⟨rfl, hb6⟩
          clear hc'
          have hbr6 := hbr.trans (hb6.mono hbr.size)
          have hb6q := hb.keep hbr6
          have g0 := hb6q.cell (j := 0) (u := .pointer (some ⟨bl, 0, none⟩)) rfl
          have gf := hb6q.free 0
          have hTn : Tn q (q + 1) w6 (w6.setCell ⟨q, 0, none⟩ (.pointer aR)) := Tn.set _ _ _ (Nat.le_refl _) (Nat.lt_succ_self _)
          have hTR := (hR.below hbr6).var hb6q hTn
          go_wp2
          go_roundw
          case rel => exact ⟨aR, R, _, hb6q.setCell 0 (.pointer aR), hTR, l5, Ha.out, (hF.trans (Tn.ofBelow hbr6 (Nat.le_refl _))).trans hTn⟩
          case measure => rw [hcnt, cntAt_tree All (hb6q.setCell 0 (.pointer aR)) hTR]; simp only [Tr.size]; omega
theorem atF_ (h : Fo w B f ls) (r o : Int) (fo : I64 o) : Calls Try.prog 19 #[.pointer (some ⟨f, 0, none⟩), .int .i64 r, .int .i64 o] w fun e w' => e = .returned (.tuple (atV (atL (treeT (rootAt ls r)).list o))) ∧ Below w.heap.size w w' := by
  obtain ⟨hT, -, hr⟩ := h.root r
  exact atG w _ r o fo _ _ _ hT (right_is.1 hr).1 (tree_ w B f ls h r)
end
end Go.Proofs.Ytiehhmchokbafaa

/- Layer 7: P7.2, R4: a forest that nobody made answers an error; lists that were answered may be written over. No condition. -/
import Derived.Test.YtiehhmchokbafaaCowAf
import Derived.Test.YtiehhmchokbafaaEmpOw
set_option linter.all false
namespace Go.Proofs.Ytiehhmchokbafaa
open Go.ChangeShapes Go.WideShapes Go.ChangeAt Go.RowKit

section
variable (w : World) (p : Option Addr) (h : NoFo w p)
include h
set_option maxRecDepth 100000 in
set_option maxHeartbeats 1000000 in
theorem put_nob (r : Int) (x : Ext) (fx : Fit x) : Calls Try.prog 28 #[.pointer p, .int .i64 r, .agg #[.int .i64 x.off, .int .i64 x.len, .int .i64 x.phys, .int .i64 x.birth]] w fun e w' => e = .returned (.tuple #[.int .i64 0, .int .i64 2]) ∧ Below w.heap.size w w' := by
  have hb1 : Below w.heap.size w (w.alloc (.cells #[.int .i64 x.off, .int .i64 x.len, .int .i64 x.phys, .int .i64 x.birth] 24)) := (Below.refl _ _).alloc (Nat.le_refl _) _
  have hx : Blk (w.alloc (.cells #[.int .i64 x.off, .int .i64 x.len, .int .i64 x.phys, .int .i64 x.birth] 24)) w.heap.size 24 (ea x) := Blk.new _ _ _ rfl
  have hc := change_put_no _ p (h.below hb1) r x fx w.heap.size hx
  go_enter Try.func28, Try.ntmps28
  go_wp2_with fail
  refine hc.mono ?_
  rintro e w2 ⟨rfl, hb2⟩
  clear hc hx
  go_wp2
  go_ret2
  exact ⟨rfl, hb1.trans (hb2.mono hb1.size)⟩
set_option maxRecDepth 100000 in
set_option maxHeartbeats 1000000 in
theorem cut_nob (r o k : Int) (fo : I64 o) (fk : I64 k) : Calls Try.prog 29 #[.pointer p, .int .i64 r, .int .i64 o, .int .i64 k] w fun e w' => e = .returned (.tuple #[.int .i64 0, .int .i64 2]) ∧ Below w.heap.size w w' := by
  have hb1 : Below w.heap.size w ((w.alloc (.cells #[.int .i64 o] 3)).alloc (.cells #[.int .i64 k] 3)) := ((Below.refl _ _).alloc (Nat.le_refl _) _).alloc (by simp) _
  have ho : Blk ((w.alloc (.cells #[.int .i64 o] 3)).alloc (.cells #[.int .i64 k] 3)) w.heap.size 3 #[.int .i64 o] := (Blk.new _ _ _ rfl).alloc _
  have hk : Blk ((w.alloc (.cells #[.int .i64 o] 3)).alloc (.cells #[.int .i64 k] 3)) (w.heap.size + 1) 3 #[.int .i64 k] := Blk.new _ _ _ (by simp)
  have hc := change_cut_no _ p (h.below hb1) r o k fo fk w.heap.size (w.heap.size + 1) ho hk
  go_enter Try.func29, Try.ntmps29
  go_wp2_with fail
  refine hc.mono ?_
  rintro e w2 ⟨rfl, hb2⟩
  clear hc ho hk
  go_wp2
  go_ret2
  exact ⟨rfl, hb1.trans (hb2.mono hb1.size)⟩
set_option maxRecDepth 100000 in
set_option maxHeartbeats 2000000 in
theorem does_nob (kd : Nat) (r : Int) (x : Ext) (hk : kd < 256) (fx : Fit x) :
    Calls Try.prog 13 #[.pointer p, .agg #[.int .u8 (kd : Int), .int .i64 r, .int .i64 x.off, .int .i64 x.len, .int .i64 x.phys, .int .i64 x.birth]] w fun e w' => e = .returned (.tuple #[.int .i64 0, .int .i64 2]) ∧ Below w.heap.size w w' := by
  have hb1 := actA w kd r x
  have h1 := h.below hb1
  have hp := put_nob _ p h1 r x fx
  have hc := cut_nob _ p h1 r x.off x.len fx.off fx.len
  unfold actC at hb1 hp hc
  clear h1
  by_cases c : kd % 2 = 0
  · have q := mod2 c
    clear c hc
    go_enter Try.func13, Try.ntmps13
    go_wp2_with fail
    refine hp.mono ?_
    rintro e w2 ⟨rfl, hb2⟩
    clear hp
    go_wp2
    go_ret2
    exact ⟨rfl, hb1.trans (hb2.mono hb1.size)⟩
  · have q := mod2 (show kd % 2 = 1 by omega)
    clear c hp
    go_enter Try.func13, Try.ntmps13
    go_wp2_with fail
    refine hc.mono ?_
    rintro e w2 ⟨rfl, hb2⟩
    clear hc
    go_wp2
    go_ret2
    exact ⟨rfl, hb1.trans (hb2.mono hb1.size)⟩
set_option maxRecDepth 100000 in
set_option maxHeartbeats 1000000 in
theorem list_nob (r : Int) : Calls Try.prog 16 #[.pointer p, .int .i64 r] w fun e w' => e = .returned (.tuple #[.slice none 0 0, .int .i64 2]) ∧ Below w.heap.size w w' := by
  go_enter Try.func16, Try.ntmps16
  go_wp2_with fail
  refine (tree_no w p h r).mono ?_
  rintro e w2 ⟨rfl, hb2⟩
  have hb3 := hb2.alloc hb2.size (.cells #[.pointer none] 70)
  go_wp2
  go_ret2
  exact ⟨rfl, hb3⟩
set_option maxRecDepth 100000 in
set_option maxHeartbeats 1000000 in
theorem part_nob (r o n : Int) : Calls Try.prog 17 #[.pointer p, .int .i64 r, .int .i64 o, .int .i64 n] w fun e w' => e = .returned (.tuple #[.slice none 0 0, .int .i64 2]) ∧ Below w.heap.size w w' := by
  go_enter Try.func17, Try.ntmps17
  go_wp2_with fail
  refine (tree_no w p h r).mono ?_
  rintro e w2 ⟨rfl, hb2⟩
  have hb3 := hb2.alloc hb2.size (.cells #[.pointer none] 70)
  go_wp2
  go_ret2
  exact ⟨rfl, hb3⟩
theorem at_nob (r o : Int) (fo : I64 o) : Calls Try.prog 19 #[.pointer p, .int .i64 r, .int .i64 o] w fun e w' => e = .returned (.tuple #[.int .i64 0, .int .i64 0, .bool false]) ∧ Below w.heap.size w w' :=
  atG w p r o fo none .nil 2 rfl rfl (tree_no w p h r)
set_option maxRecDepth 100000 in
set_option maxHeartbeats 1000000 in
theorem deep_nob (r : Int) : Calls Try.prog 25 #[.pointer p, .int .i64 r] w fun e w' => e = .returned (.int .i64 0) ∧ Below w.heap.size w w' := by
  go_enter Try.func25, Try.ntmps25
  go_wp2_with fail
  refine (tree_no w p h r).mono ?_
  rintro e w2 ⟨rfl, hb2⟩
  have hb3 := hb2.alloc hb2.size (.cells #[.pointer none] 70)
  go_wp2_with fail
  refine (deep_ _ All .nil none rfl).mono ?_
  rintro e w4 ⟨rfl, hb4⟩
  go_wp2
  go_ret
  exact ⟨rfl, hb3.trans (hb4.mono hb3.size)⟩
set_option maxRecDepth 100000 in
set_option maxHeartbeats 1000000 in
theorem size_nob (r : Int) : Calls Try.prog 22 #[.pointer p, .int .i64 r] w fun e w' => e = .returned (.int .i64 0) ∧ Below w.heap.size w w' := by
  go_enter Try.func22, Try.ntmps22
  go_wp2_with fail
  refine (tree_no w p h r).mono ?_
  rintro e w2 ⟨rfl, hb2⟩
  have hb3 := hb2.alloc hb2.size (.cells #[.pointer none] 70)
  go_wp2_with fail
  refine (size_ _ All .nil none rfl).mono ?_
  rintro e w4 ⟨rfl, hb4⟩
  go_wp2
  go_ret
  exact ⟨rfl, hb3.trans (hb4.mono hb3.size)⟩
set_option maxRecDepth 100000 in
set_option maxHeartbeats 1000000 in
theorem fresh_nob (r1 r2 : Int) : Calls Try.prog 27 #[.pointer p, .int .i64 r1, .int .i64 r2] w fun e w' => e = .returned (.int .i64 0) ∧ Below w.heap.size w w' := by
  go_enter Try.func27, Try.ntmps27
  go_wp2_with fail
  refine (tree_no w p h r1).mono ?_
  rintro e w2 ⟨rfl, hb2⟩
  have hb3 := hb2.alloc hb2.size (.cells #[.pointer none] 70)
  go_wp2
  go_ret
  exact ⟨rfl, hb3⟩
set_option maxRecDepth 100000 in
theorem trees_nob : Calls Try.prog 15 #[.pointer p] w fun e w' => e = .returned (.int .i64 0) ∧ w = w' := by
  go_enter Try.func15, Try.ntmps15
  go_wp2_with fail
  refine (made_no w p h).mono ?_
  rintro e w2 ⟨rfl, rfl⟩
  go_wp2
  go_ret
  exact ⟨rfl, rfl⟩
end
set_option maxRecDepth 100000 in
set_option maxHeartbeats 8000000 in
theorem cowNobody_walk (kd : Nat) (r : Int) (x : Ext) (hkd : kd < 256) (fx : Fit x) (w : World) :
    Calls Try.prog 8 #[.agg #[.int .u8 (kd : Int), .int .i64 r, .int .i64 x.off, .int .i64 x.len, .int .i64 x.phys, .int .i64 x.birth]] w fun e w' => e = .returned (.bool true) ∧ Below w.heap.size w w' := by
  obtain ⟨w0, hw0⟩ : ∃ w0, w0 = ((w.alloc (.cells #[.int .u8 (kd : Int), .int .i64 r, .int .i64 x.off, .int .i64 x.len, .int .i64 x.phys, .int .i64 x.birth] 26)).alloc (.cells #[.pointer none, .slice none 0 0] 65)).alloc (.cells #[.pointer none, .pointer (some ⟨w.heap.size + 1, 0, none⟩)] 27) := ⟨_, rfl⟩
  have ba : Blk w0 w.heap.size 26 (actC kd r x) := by rw [hw0]; exact ((Blk.new _ _ _ rfl).alloc _).alloc _
  have bf : Blk w0 (w.heap.size + 1) 65 #[.pointer none, .slice none 0 0] := by rw [hw0]; exact (Blk.new _ _ _ (by simp)).alloc _
  have bs : Blk w0 (w.heap.size + 1 + 1) 27 #[.pointer none, .pointer (some ⟨w.heap.size + 1, 0, none⟩)] := by rw [hw0]; exact Blk.new _ _ _ (by simp)
  have hB0 : Below w.heap.size w w0 := by rw [hw0]; exact (((Below.refl _ _).alloc (Nat.le_refl _) _).alloc (by simp) _).alloc (by simp; omega) _
  go_enter Try.func8, Try.ntmps8
  go_wp2_with fail
  rw [← hw0]
  clear hw0
  generalize hg : w.heap.size = g at *
  go_loopw [28] (fun iv wr => ∃ j : Nat, j ≤ 2 ∧ iv = .int .i64 (j : Int) ∧ Below w0.heap.size w0 wr) (fun iv _ => 2 - (intOf iv).toNat)
  case atStart => exact ⟨0, Nat.zero_le _, rfl, Below.refl _ _⟩
  case round =>
    obtain ⟨j, hj, rfl, hb⟩ := hrel
    have hs0 := hB0.size
    by_cases hlt : j < 2
    · have hjl : (j : Int) < 2 := by omega
      have hj0 : (0 : Int) ≤ (j : Int) := by omega
      obtain ⟨p, hp, cp⟩ : ∃ p, NoFo wr p ∧ wr.cell? ⟨g + 1 + 1, j, none⟩ = some (.pointer p) := by
        match j, hlt with
        | 0, _ => exact ⟨none, trivial, (bs.keep hb).cell rfl⟩
        | 1, _ => exact ⟨some ⟨g + 1, 0, none⟩, ⟨g + 1, _, rfl, bf.keep hb⟩, (bs.keep hb).cell rfl⟩
      have bar := ba.keep hb
      have a0 := bar.cell (j := 0) (u := .int .u8 (kd : Int)) rfl
      have a1 := bar.cell (j := 1) (u := .int .i64 r) rfl
      have a2 := bar.cell (j := 2) (u := .int .i64 x.off) rfl
      have a3 := bar.cell (j := 3) (u := .int .i64 x.len) rfl
      have a4 := bar.cell (j := 4) (u := .int .i64 x.phys) rfl
      have a5 := bar.cell (j := 5) (u := .int .i64 x.birth) rfl
      go_wp2_with fail
      refine (does_nob wr p hp kd r x hkd fx).mono ?_
      rintro e w2 ⟨rfl, hb2⟩
      replace hp := hp.below hb2
      replace hb := hb.trans (hb2.mono hb.size)
      clear a0 a1 a2 a3 a4 a5 cp bar hb2
      go_wp2_with fail
      refine (list_nob w2 p hp 0).mono ?_
      rintro e w3 ⟨rfl, hb2⟩
      replace hp := hp.below hb2
      replace hb := hb.trans (hb2.mono hb.size)
      clear hb2
      go_wp2_with fail
      refine (part_nob w3 p hp 0 0 1).mono ?_
      rintro e w4 ⟨rfl, hb2⟩
      replace hp := hp.below hb2
      replace hb := hb.trans (hb2.mono hb.size)
      clear hb2
      go_wp2_with fail
      refine (at_nob w4 p hp 0 0 (by unfold I64; omega)).mono ?_
      rintro e w5 ⟨rfl, hb2⟩
      replace hp := hp.below hb2
      replace hb := hb.trans (hb2.mono hb.size)
      clear hb2
      go_wp2_with fail
      refine (deep_nob w5 p hp 0).mono ?_
      rintro e w6 ⟨rfl, hb2⟩
      replace hp := hp.below hb2
      replace hb := hb.trans (hb2.mono hb.size)
      clear hb2
      go_wp2_with fail
      refine (size_nob w6 p hp 0).mono ?_
      rintro e w7 ⟨rfl, hb2⟩
      replace hp := hp.below hb2
      replace hb := hb.trans (hb2.mono hb.size)
      clear hb2
      go_wp2_with fail
      refine (fresh_nob w7 p hp 0 0).mono ?_
      rintro e w8 ⟨rfl, hb2⟩
      replace hp := hp.below hb2
      replace hb := hb.trans (hb2.mono hb.size)
      clear hb2
      go_wp2_with fail
      refine (trees_nob w8 p hp).mono ?_
      rintro e w9 ⟨rfl, rfl⟩
      clear hp
      go_wp2
      go_roundw
      case rel => exact ⟨j + 1, by omega, by go_num, hb⟩
      case measure => simp [intOf]; omega
    · have hin : (2 : Int) ≤ (j : Int) := by omega
      have hBr : Below g w wr := hB0.trans (hb.mono (by omega))
      clear hb hB0 ba bf bs
      go_wp2_with fail
      refine (newF_ wr).mono ?_
      rintro e w1 ⟨f, rfl, h1, hb1⟩
      go_wp2_with fail
      refine (putF_ w1 wr.heap.size f _ h1 hb1.size (by simp) 0 va (fit_of va_may)).mono ?_
      intro e w5 hC
      obtain ⟨q2, rfl, hM⟩ := hC.done (q := (none, .nil)) rfl va_may
      have h5 := hM.fo
      have l5 : q2.2.list = [va] := hM.list.trans va_put
      have hb5 : Below g w w5 := hBr.trans ((hb1.trans hM.below).mono (by have := hBr.size; omega))
      clear hC hM h1 hb1 hBr
      go_wp2_with fail
      refine (listF_ w5 wr.heap.size f _ h5 1 q2 rfl).mono ?_
      rw [l5]
      rintro e w6 ⟨A6, m6, c6, rfl, g6, hb6⟩
      have q6 := mine_of g6
      have z6 := g6.le
      clear g6
      go_wp2_with fail
      refine (partF_ w6 wr.heap.size f _ (h5.below hb6) 1 0 4 (by unfold I64; omega) (by unfold I64; omega) q2 rfl).mono ?_
      rintro e w7 ⟨A7, m7, c7, rfl, g7, hb7⟩
      have q7 : Mine w7 w5.heap.size A7 m7 := mine_of (g7.mono hb6.size)
      have z7 := g7.le
      replace q6 := q6.keep hb7
      have hb57 := hb6.trans (hb7.mono hb6.size)
      clear g7 hb6 hb7
      obtain ⟨R, hR⟩ : ∃ R : Rows3, R = [(A6, m6, c6), (A7, m7, c7)] := ⟨_, rfl⟩
      have hRl : R.length = 2 := by rw [hR]; rfl
      have hRs : slicesOf R = #[.slice A6 m6 c6, .slice A7 m7 c7] := by rw [hR]; rfl
      have hRm : ∀ r ∈ R, Mine w7 w5.heap.size r.1 r.2.1 ∧ r.2.1 ≤ 9223372036854775807 := by
        intro r hr
        rw [hR] at hr
        simp only [List.mem_cons, List.not_mem_nil, or_false] at hr
        rcases hr with rfl | rfl
        · exact ⟨q6, z6⟩
        · exact ⟨q7, z7⟩
      have hbG : Below w7.heap.size w7 (w7.alloc (.cells #[.slice A6 m6 c6, .slice A7 m7 c7] 42)) := (Below.refl _ _).alloc (Nat.le_refl _) _
      have hO : Over (w7.alloc (.cells #[.slice A6 m6 c6, .slice A7 m7 c7] 42)) w5.heap.size R w7.heap.size :=
        ⟨fun r hr => (hRm r hr).1.keep hbG, by rw [hRs]; exact Blk.new w7 _ _ rfl⟩
      have hb8 := hb57.trans (hbG.mono hb57.size)
      have hRz : ∀ r ∈ R, r.2.1 ≤ 9223372036854775807 := fun r hr => (hRm r hr).2
      clear hR hRs hRm hbG hb57 q6 q7 z6 z7
      go_wp2_with fail
      generalize (w7.alloc (.cells #[.slice A6 m6 c6, .slice A7 m7 c7] 42)) = w8 at *
      generalize w7.heap.size = gs at *
      go_loopw [120] (fun iv wr => ∃ j : Nat, j ≤ 2 ∧ iv = .int .i64 (j : Int) ∧ Over wr w5.heap.size R gs ∧ Below w5.heap.size w5 wr) (fun iv _ => 2 - (intOf iv).toNat)
      case atStart => exact ⟨0, Nat.zero_le _, rfl, hO, hb8⟩
      case round =>
        obtain ⟨j, hj, rfl, hOr, hbr⟩ := hrel
        obtain ⟨wo, rfl⟩ : ∃ wo : World, wo = wr := ⟨_, rfl⟩
        clear hO hb8
        by_cases hlt : j < 2
        · have hjl : (j : Int) < 2 := by omega
          have hj0 : (0 : Int) ≤ (j : Int) := by omega
          have hjR : j < R.length := by omega
          have ck := hOr.at_ hjR
          have hmm : ∀ W, Over W w5.heap.size R gs → Mine W w5.heap.size R[j].1 R[j].2.1 := fun W hW => hW.mine _ (List.getElem_mem hjR)
          have hzz := hRz _ (List.getElem_mem hjR)
          generalize R[j].1 = Ak at *
          generalize R[j].2.1 = mk at *
          generalize R[j].2.2 = ckk at *
          go_wp2_with fail
          clear ck
          go_loopw [126] (fun iv wx => ∃ i : Nat, i ≤ mk ∧ iv = .int .i64 (i : Int) ∧ Over wx w5.heap.size R gs ∧ Below w5.heap.size w5 wx) (fun iv _ => mk - (intOf iv).toNat)
          case atStart => exact ⟨0, Nat.zero_le _, rfl, hOr, hbr⟩
          case round =>
            obtain ⟨i, hi, rfl, hOx, hbx⟩ := hrel
            clear hOr hbr
            by_cases hil : i < mk
            · have hii : (i : Int) < (mk : Int) := by omega
              have hi0 : (0 : Int) ≤ (i : Int) := by omega
              rcases hmm _ hOx with h0 | ⟨g3, cap, cur, rfl, hg3, hblk, hmc, hcs⟩
              · omega
              · have hth : wr.there g3 (i * 4) 4 := hblk.there _ _ (by omega)
                have hO2 : Over (wr.setCells g3 (i * 4) [.int .i64 (-1), .int .i64 0, .int .i64 0, .int .i64 0]) w5.heap.size R gs := hOx.set hblk (by simp only [List.length_cons, List.length_nil]; omega)
                have hB2 : Below w5.heap.size w5 (wr.setCells g3 (i * 4) [.int .i64 (-1), .int .i64 0, .int .i64 0, .int .i64 0]) := hbx.trans ((Tn.sets (lo := g3) (hi := g3 + 1) (Nat.le_refl _) (Nat.lt_succ_self _) _ (i * 4) wr).below hg3 hbx.size)
                clear hOx hbx hblk hcs hmc
                go_wp2_with (first
                  | (refine wpList_store_mid rfl 24 _ _ rfl g3 (i * 4) #[.int .i64 (-1), .int .i64 0, .int .i64 0, .int .i64 0] rfl rfl hth (by kernel_rfl) (by simp [Value.oneCell']) ?_
                     rw [show (#[Value.int .i64 (-1), Value.int .i64 0, Value.int .i64 0, Value.int .i64 0] : Array Value).toList = [.int .i64 (-1), .int .i64 0, .int .i64 0, .int .i64 0] from rfl]
                     generalize wr.setCells g3 (i * 4) [.int .i64 (-1), .int .i64 0, .int .i64 0, .int .i64 0] = wy at *)
                  | fail)
                go_roundw
                case rel => exact ⟨i + 1, by omega, by go_num, hO2, hB2⟩
                case measure => simp [intOf]; omega
            · have hin : (mk : Int) ≤ (i : Int) := by omega
              go_wp2
              go_roundw
              case rel => exact ⟨j + 1, by omega, by go_num, hOx, hbx⟩
              case measure => simp [intOf]; omega
        · have hin : (2 : Int) ≤ (j : Int) := by omega
          have h8 := h5.below hbr
          have hBo : Below g w wo := hb5.trans (hbr.mono (by have := hb5.size; omega))
          clear hOr hbr h5
          go_wp2_with fail
          refine (listF_ wo wr.heap.size f _ h8 1 q2 rfl).mono ?_
          rw [l5]
          rintro e w9 ⟨A9, m9, c9, rfl, g9, hb9⟩
          have hBo9 : Below g w w9 := hBo.trans (hb9.mono (by have := hBo.size; omega))
          have hE9 := g9.es.alloc (.cells #[.int .i64 0, .int .i64 4, .int .i64 0, .int .i64 0] 24)
          have hEv : Es (w9.alloc (.cells #[.int .i64 0, .int .i64 4, .int .i64 0, .int .i64 0] 24)) (some ⟨w9.heap.size, 0, none⟩) 1 [va] := ⟨Rd.new w9 #[.int .i64 0, .int .i64 4, .int .i64 0, .int .i64 0] 24 (0, 0) rfl, fun y hy => by rw [List.mem_singleton.1 hy]; exact fit_of va_may⟩
          have hBoa : Below g w (w9.alloc (.cells #[.int .i64 0, .int .i64 4, .int .i64 0, .int .i64 0] 24)) := hBo9.alloc (by have := hBo9.size; omega) _
          have z9 := g9.le
          clear g9 h8
          go_wp2_with fail
          refine (same_ _ A9 (some ⟨w9.heap.size, 0, none⟩) m9 1 c9 1 [va] hE9 hEv z9).mono ?_
          rintro e wb ⟨kb, rfl, rfl⟩
          go_wp2_with fail
          refine (alive_ _).mono ?_
          rintro e wd ⟨rfl, hbd⟩
          go_wp2
          go_ret
          have hs := hBoa.size
          subst hg
          exact ⟨rfl, hBoa.trans ((⟨hbd.os, hbd.tape, hbd.output, hbd.size, hbd.block⟩ : Below (w9.alloc (.cells #[.int .i64 0, .int .i64 4, .int .i64 0, .int .i64 0] 24)).heap.size (w9.alloc (.cells #[.int .i64 0, .int .i64 4, .int .i64 0, .int .i64 0] 24)) wd).mono hs)⟩
set_option maxRecDepth 100000 in
theorem cowNobody_lifted (os : Os) (started : os.Started) (H : Type) (enc : TypeId × Value → H) :
    ReturnsInHanded {} Try.checked os 8 .any (Rows.cowNobodySpec.pre6 enc Try.prog Try.f8 Rows.cowNobodyRow.domain false) (Rows.cowNobodySpec.post enc Try.prog Try.f8 false true false false) := by
  refine law_lifted (C := Try.checked) (tb := 4) own_ started (by kernel_rfl) Try.func8
    (ChangeSpec.witness6 (enc := enc) (C := Try.checked) false ⟨#[], #[.agg #[.int .u8 0, .int .i64 0, .int .i64 0, .int .i64 0, .int .i64 0, .int .i64 0]], []⟩ 8 (by kernel_rfl) (by kernel_rfl) (by kernel_rfl) (by kernel_rfl))
    rfl rfl Try.underlying4 laidOut_ (by kernel_rfl) (fun ds h => by match ds, h with | [_], _ => rfl) ?_
  intro W base args ds p hval0 hA0 _ hsz0
  have hval : ∀ (j : Nat) t v, Try.f8.params[j]? = some t → args[j]? = some v → Value.okWide Try.prog W .any base t v := hval0
  have hA : DataW.TrodAll enc Try.prog W 0 (fun _ => true) true Try.f8.params.toList args.toList ds p := hA0
  have hsz : (DataW.weightsEach Try.prog Try.f8.params.toList ds).all (· ≤ reachBytes) = true := hsz0
  clear hval0 hA0 hsz0
  rw [Try.params8] at hA hval hsz
  obtain ⟨v0, d0, rfl, rfl, h0⟩ := trodAll_one hA
  obtain ⟨cs0, a0, rfl, r0, b0⟩ := arg_struct ops_act Try.underlying26 (hval 0 _ v0 rfl rfl) h0 (weight_at hsz (j := 0) rfl rfl)
  obtain ⟨rfl, q1, q2⟩ := act_arr r0
  exact cowNobody_walk _ _ _ (UInt8.toNat_lt _) q2 W

/-- CowNobody, for every input: the statement as it was given. -/
theorem cowNobody_holds : Rows.CowNobodySaid :=
  OpenClaim.holds_of_wide 8 Try.f8 rfl rfl rfl rfl rfl rfl rfl ⟨rfl, rfl, rfl, rfl, rfl⟩ rfl rfl rfl rfl rfl (by kernel_rfl) Try.func8 (by kernel_rfl)
    (of_decide_eq_true (by kernel_rfl)) (by unfold Func.isWrapper; first | (rw [if_pos (by decide +kernel)]; kernel_rfl) | (rw [if_neg (by decide +kernel)]; exact ⟨rfl, rfl⟩))
    (fun os started H enc _ => cowNobody_lifted os started H enc)
end Go.Proofs.Ytiehhmchokbafaa

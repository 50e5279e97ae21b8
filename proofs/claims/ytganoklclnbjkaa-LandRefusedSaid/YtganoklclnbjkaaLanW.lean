/- Layer 11: the document's Build, walked. -/
import Derived.Test.YtganoklclnbjkaaLanX
import Derived.BigRegion
set_option linter.all false
namespace Go.Proofs.Ytganoklclnbjkaa
open Go.RowKit
namespace Lan
open Str (Rec mayB opOf FitR Rdt Rcl ra oa ra0 rv8 rvs rvs_app rvs_len rvs_at rvs_one rd_new1 k4 k8 rc_blk farB r0 midL recOp tailR bldL bareR Sm rec_info take_snoc)
open Blo (I64 apL apE GotN AnsN)
theorem dat_block {w : World} {o : BOp} {X : Option Addr} {m c : Nat} (h : Blo.Dat w o X m c) : ∀ a, X = some a → 0 < m → a.block < w.heap.size := fun a ha hm => by
  obtain ⟨b, o, e, _, hc, _⟩ := h.ns.at_ hm
  rw [ha] at e
  injection e with e
  subst e
  exact cell_lt hc
section
variable (w : World)
set_option maxRecDepth 100000 in
set_option maxHeartbeats 16000000 in
theorem rbuild_ (h : Rec) (hf : FitR h) (hk : h.k = 1) (hd0 : h.d = []) (hm : mayB h = true) (A : Option Addr) (n d : Nat) (ops : List BOp) (ho : Blo.Opl w A n ops) (hn : n ≤ 2000000) :
    Calls Try.prog 8 #[.agg (ra h (.slice none 0 0)), .slice A n d] w fun e w' => RBld w w' e h ops := by
  have Hn := Lib.hid ho.len
  have hbh := Lib.hid (bare_nil hd0)
  obtain ⟨w1, hw1⟩ : ∃ w1, w.alloc (.cells (ra h (.slice none 0 0)) 29) = w1 := ⟨_, rfl⟩
  have hs1 : w1.heap.size = w.heap.size + 1 := by rw [← hw1]; simp
  have hb1 : Below w.heap.size w w1 := by rw [← hw1]; exact (Below.refl _ _).alloc (Nat.le_refl _) _
  have hr1 : Blk w1 w.heap.size 29 (ra h (.slice none 0 0)) := by rw [← hw1]; exact Blk.new w _ _ rfl
  have hd1 : Rdt w1 h none 0 0 := rdt_nil w1 h hd0 hf
  obtain ⟨c0, c1, c2, c3, c4, c5, c6, c7⟩ := k8 hr1
  have hk2 : (h.k == (1 : Int)) = true := by simp [hk]
  have hk3 : (h.k != (1 : Int)) = false := by simp [hk]
  obtain ⟨i0, hi0, hz0, hz1, hz2⟩ := rec_info
  have Hz := Lib.hid hz2
  clear hz2 hk hd0
  go_enter Try.func8, Try.ntmps8
  go_wp2_with fail
  refine (rmay_ w1 h none 0 0 hd1).mono ?_
  rw [hm]
  clear hm
  rintro e w2 ⟨rfl, hb2⟩
  have hr2 := hr1.keep hb2
  have hB2 : Below w.heap.size w w2 := hb1.trans (hb2.mono hb1.size)
  obtain ⟨y0, y1, y2, y3, y4, y5, y6, y7⟩ := k8 hr2
  have hsz2 := hB2.size
  obtain ⟨w4, hw4⟩ : ∃ w4, w2.alloc (.cells (ra h (.slice none 0 0)) 29) = w4 := ⟨_, rfl⟩
  have hB4 : Below w.heap.size w w4 := by rw [← hw4]; exact hB2.alloc hB2.size _
  have hO4 : Rw w4 w.heap.size (.slice (some ⟨w2.heap.size, 0, none⟩) 1 1) 1 [(h, .slice none 0 0)] := by
    rw [← hw4]
    exact ⟨own_new w2 w.heap.size (ra h (.slice none 0 0)) 29 rfl hsz2 (by unfold maxLen; omega), fun p hp => by rw [List.mem_singleton.1 hp]; exact ⟨none, 0, 0, rfl, rdt_nil _ h (by have := hbh.out; rw [← this]; rfl) hf, fun a ha => by cases ha⟩⟩
  go_wp2_with fail
  clear hw1 hw4 hr1 hr2 hd1 hb1 hb2 hB2 c0 c1 c2 c3 c4 c5 c6 c7 y0 y1 y2 y3 y4 y5 y6 y7
  go_loopw [6, 7] (fun lv iv wr => ∃ (i : Nat) (L : List (Rec × Value)), i ≤ n ∧ iv = .int .i64 (i : Int) ∧ Rw wr w.heap.size lv (i + 1) L ∧ Hid (L.map Prod.fst = h :: (ops.take i).map recOp) ∧ Below w.heap.size w wr) (fun _ iv _ => n - (intOf iv).toNat)
  case atStart => exact ⟨0, _, Nat.zero_le _, rfl, hO4, Lib.hid rfl, hB4⟩
  case round =>
    obtain ⟨i, L, hi, rfl, hO, HL, hb⟩ := hrel
    obtain ⟨Al, cl, rfl, hcl, hml, hal⟩ := own_form hO.row
    by_cases hlt : i < n
    · have hil : (i : Int) < (n : Int) := by omega
      have hi0' : (0 : Int) ≤ (i : Int) := by omega
      obtain ⟨b, oo, Y, p, q, x, rfl, hx, v0, v1, v2, v3, hdw⟩ := ho.at_ hlt
      have hYb := dat_block hdw
      have r0' := (hb.cell (cell_lt v0)).trans v0
      have r1 := (hb.cell (cell_lt v1)).trans v1
      have r2 := (hb.cell (cell_lt v2)).trans v2
      have r3 := (hb.cell (cell_lt v3)).trans v3
      have hdx := hdw.below hb
      have HT := Lib.hid (take_snoc hx)
      have hbz : Below wr.heap.size wr (wr.alloc (.cells ra0 29)) := (Below.refl _ _).alloc (Nat.le_refl _) _
      have s0 := (hbz.cell (cell_lt r0')).trans r0'
      have s1 := (hbz.cell (cell_lt r1)).trans r1
      have s2 := (hbz.cell (cell_lt r2)).trans r2
      have s3 := (hbz.cell (cell_lt r3)).trans r3
      obtain ⟨rr, hrr⟩ : ∃ rr, recOp x = rr := ⟨_, rfl⟩
      have Hrr := Lib.hid hrr
      have hbs := hb.size
      clear v0 v1 v2 v3 hdw hx hbz ho
      by_cases k1 : x.kind = 1
      · have hRR : ra (recOp x) (.slice Y p q) = #[.int .i64 2, .int .i64 0, .int .i64 0, .int .i64 0, .int .i64 0, .int .i64 x.off, .int .i64 x.len, .slice Y p q] := by unfold recOp; rw [if_pos k1]
        have kb1 : (x.kind != 1) = false := by simpa using k1
        have hkw : IntKind.i64.wrap (x.kind + 1) = 2 := by rw [k1]; rfl
        clear k1
        obtain ⟨w5, hw5⟩ : ∃ w5, (wr.alloc (.cells #[.int .i64 2, .int .i64 0, .int .i64 0, .int .i64 0, .int .i64 0, .int .i64 x.off, .int .i64 x.len, .slice Y p q] 29)).drew = w5 := ⟨_, rfl⟩
        have hb5 : Below wr.heap.size wr w5 := by rw [← hw5]; exact below_drewN ((Below.refl _ _).alloc (Nat.le_refl _) _) 1
        have hn5 : Blk w5 wr.heap.size 29 #[.int .i64 2, .int .i64 0, .int .i64 0, .int .i64 0, .int .i64 0, .int .i64 x.off, .int .i64 x.len, .slice Y p q] := by rw [← hw5]; exact Blk.new wr _ _ rfl
        have q0 := (hb5.cell (cell_lt r0')).trans r0'
        obtain ⟨w6, hw6⟩ : ∃ w6, w5 = w6 := ⟨_, rfl⟩
        subst hw6
        have hb6 : Below wr.heap.size wr w5 := hb5
        have hn6 : Blk w5 wr.heap.size 29 (ra rr (.slice Y p q)) := by rw [← Hrr.out, hRR]; exact hn5
        obtain ⟨e0, e1, e2, e3, e4, e5, e6, e7⟩ := k8 hn6
        have hd6 : Rdt w5 rr Y p q := by rw [← Hrr.out]; exact recOp_rdt (hdx.below hb6)
        have hO6 := hO.keep hb6
        have hB6 : Below w.heap.size w w5 := hb.trans (hb6.mono hbs)
        have hz6 := hB6.size
        have hb7 : Below w5.heap.size w5 (w5.alloc (.cells (ra rr (.slice Y p q)) 29)) := (Below.refl _ _).alloc (Nat.le_refl _) _
        have hO7 := hO6.keep hb7
        have hB7 := hB6.trans (hb7.mono hz6)
        have hz7 := hB7.size
        have hd7 := hd6.below hb7
        have hnews : Rd (w5.alloc (.cells (ra rr (.slice Y p q)) 29)) (some ⟨w5.heap.size, 0, none⟩) 8 1 (rvs [(rr, .slice Y p q)]) := rd_new1 w5 rr Y p q _ rfl
        have hone : ∀ u ∈ rvs [(rr, Value.slice Y p q)], u.oneCell' = true := rvs_one (by simp)
        have hnext := fun (v8 : Value) (w8 : World) (hown8 : w8.ownsRow w.heap.size 29 8 v8 (i + 1 + 1) (rvs L ++ rvs [(rr, .slice Y p q)])) (hg8 : (w5.alloc (.cells (ra rr (.slice Y p q)) 29)).grownBy w8 (Value.slice Al (i + 1) cl).ownBlock) => hO7.app hg8 hown8 (fun p' hp' => by rw [List.mem_singleton.1 hp']; exact ⟨Y, p, q, rfl, hd7, hYb⟩)
        clear hO6 hb7 hd6 hd7 hO hdx hRR hrr
        go_wp2_with fail
        go_region
        go_wp2_with (first
          | (at_builtin
             refine wpList_app _ rfl (.tmp 63) (.tmp 65) _ rfl w.heap.size 29 i0 (.agg ra0) 8 80 Try.underlying24 hi0 hz0 hz1 Hz.out rfl (by omega) (.slice Al (i + 1) cl) (i + 1) (rvs L) rfl hO7.row _ 1 1 _ rfl (by simp) hnews hone (by unfold maxLen; omega) (by omega) hz7 ?_
             intro v8 w8 hown8 hg8 hat8
             have hO8 := hnext v8 w8 hown8 hg8
             have hB8 : Below w.heap.size w w8 := hB7.grown hg8 hz7 (fun k hk => (hO7.row.lt k hk).1)
             obtain ⟨A8, c8, rfl, hc8, hm8, ha8⟩ := own_form hown8))
        go_roundw
        case rel => exact ⟨i + 1, L ++ [(rr, .slice Y p q)], by omega, by go_num, hO8, Lib.hid (by rw [HT.out, List.map_append, List.map_append, HL.out, ← Hrr.out]; simp), hB8⟩
        case measure => simp [intOf]; omega
      · have kb1 : (x.kind != 1) = true := by simpa using k1
        by_cases k2 : x.kind = 2
        · have hRR : ra (recOp x) (.slice Y p q) = #[.int .i64 3, .int .i64 0, .int .i64 0, .int .i64 0, .int .i64 0, .int .i64 x.off, .int .i64 x.len, .slice Y p q] := by unfold recOp; rw [if_neg k1, if_pos k2]
          have kb2 : (x.kind != 2) = false := by simpa using k2
          have hkw : IntKind.i64.wrap (x.kind + 1) = 3 := by rw [k2]; rfl
          clear k1 k2
          obtain ⟨w5, hw5⟩ : ∃ w5, (wr.alloc (.cells #[.int .i64 3, .int .i64 0, .int .i64 0, .int .i64 0, .int .i64 0, .int .i64 x.off, .int .i64 x.len, .slice Y p q] 29)).drew = w5 := ⟨_, rfl⟩
          have hb5 : Below wr.heap.size wr w5 := by rw [← hw5]; exact below_drewN ((Below.refl _ _).alloc (Nat.le_refl _) _) 1
          have hn5 : Blk w5 wr.heap.size 29 #[.int .i64 3, .int .i64 0, .int .i64 0, .int .i64 0, .int .i64 0, .int .i64 x.off, .int .i64 x.len, .slice Y p q] := by rw [← hw5]; exact Blk.new wr _ _ rfl
          have q0 := (hb5.cell (cell_lt r0')).trans r0'
          obtain ⟨w6, hw6⟩ : ∃ w6, w5 = w6 := ⟨_, rfl⟩
          subst hw6
          have hb6 : Below wr.heap.size wr w5 := hb5
          have hn6 : Blk w5 wr.heap.size 29 (ra rr (.slice Y p q)) := by rw [← Hrr.out, hRR]; exact hn5
          obtain ⟨e0, e1, e2, e3, e4, e5, e6, e7⟩ := k8 hn6
          have hd6 : Rdt w5 rr Y p q := by rw [← Hrr.out]; exact recOp_rdt (hdx.below hb6)
          have hO6 := hO.keep hb6
          have hB6 : Below w.heap.size w w5 := hb.trans (hb6.mono hbs)
          have hz6 := hB6.size
          have hb7 : Below w5.heap.size w5 (w5.alloc (.cells (ra rr (.slice Y p q)) 29)) := (Below.refl _ _).alloc (Nat.le_refl _) _
          have hO7 := hO6.keep hb7
          have hB7 := hB6.trans (hb7.mono hz6)
          have hz7 := hB7.size
          have hd7 := hd6.below hb7
          have hnews : Rd (w5.alloc (.cells (ra rr (.slice Y p q)) 29)) (some ⟨w5.heap.size, 0, none⟩) 8 1 (rvs [(rr, .slice Y p q)]) := rd_new1 w5 rr Y p q _ rfl
          have hone : ∀ u ∈ rvs [(rr, Value.slice Y p q)], u.oneCell' = true := rvs_one (by simp)
          have hnext := fun (v8 : Value) (w8 : World) (hown8 : w8.ownsRow w.heap.size 29 8 v8 (i + 1 + 1) (rvs L ++ rvs [(rr, .slice Y p q)])) (hg8 : (w5.alloc (.cells (ra rr (.slice Y p q)) 29)).grownBy w8 (Value.slice Al (i + 1) cl).ownBlock) => hO7.app hg8 hown8 (fun p' hp' => by rw [List.mem_singleton.1 hp']; exact ⟨Y, p, q, rfl, hd7, hYb⟩)
          clear hO6 hb7 hd6 hd7 hO hdx hRR hrr
          go_wp2_with fail
          go_region
          go_wp2_with (first
            | (at_builtin
               refine wpList_app _ rfl (.tmp 63) (.tmp 65) _ rfl w.heap.size 29 i0 (.agg ra0) 8 80 Try.underlying24 hi0 hz0 hz1 Hz.out rfl (by omega) (.slice Al (i + 1) cl) (i + 1) (rvs L) rfl hO7.row _ 1 1 _ rfl (by simp) hnews hone (by unfold maxLen; omega) (by omega) hz7 ?_
               intro v8 w8 hown8 hg8 hat8
               have hO8 := hnext v8 w8 hown8 hg8
               have hB8 : Below w.heap.size w w8 := hB7.grown hg8 hz7 (fun k hk => (hO7.row.lt k hk).1)
               obtain ⟨A8, c8, rfl, hc8, hm8, ha8⟩ := own_form hown8))
          go_roundw
          case rel => exact ⟨i + 1, L ++ [(rr, .slice Y p q)], by omega, by go_num, hO8, Lib.hid (by rw [HT.out, List.map_append, List.map_append, HL.out, ← Hrr.out]; simp), hB8⟩
          case measure => simp [intOf]; omega
        · have hRR : ra (recOp x) (.slice Y p q) = #[.int .i64 0, .int .i64 0, .int .i64 0, .int .i64 0, .int .i64 0, .int .i64 x.off, .int .i64 x.len, .slice Y p q] := by unfold recOp; rw [if_neg k1, if_neg k2]
          have kb2 : (x.kind != 2) = true := by simpa using k2
          obtain ⟨z, hkw⟩ : ∃ z, IntKind.i64.wrap (x.kind + 1) = z := ⟨_, rfl⟩
          clear k1 k2
          obtain ⟨w5, hw5⟩ : ∃ w5, (wr.alloc (.cells #[.int .i64 z, .int .i64 0, .int .i64 0, .int .i64 0, .int .i64 0, .int .i64 x.off, .int .i64 x.len, .slice Y p q] 29)).drew = w5 := ⟨_, rfl⟩
          have hb5 : Below wr.heap.size wr w5 := by rw [← hw5]; exact below_drewN ((Below.refl _ _).alloc (Nat.le_refl _) _) 1
          have hn5 : Blk w5 wr.heap.size 29 #[.int .i64 z, .int .i64 0, .int .i64 0, .int .i64 0, .int .i64 0, .int .i64 x.off, .int .i64 x.len, .slice Y p q] := by rw [← hw5]; exact Blk.new wr _ _ rfl
          have q0 := (hb5.cell (cell_lt r0')).trans r0'
          have zz := hn5.free
          have z0 := hn5.cell (j := 0) (u := .int .i64 z) rfl
          obtain ⟨w6, hw6⟩ : ∃ w6, w5.setCell ⟨wr.heap.size, 0, none⟩ (.int .i64 0) = w6 := ⟨_, rfl⟩
          have hb6 : Below wr.heap.size wr w6 := by rw [← hw6]; exact hb5.setCell (Nat.le_refl _) _
          have hn6 : Blk w6 wr.heap.size 29 (ra rr (.slice Y p q)) := by rw [← hw6, ← Hrr.out, hRR]; exact hn5.setCell 0 _
          obtain ⟨e0, e1, e2, e3, e4, e5, e6, e7⟩ := k8 hn6
          have hd6 : Rdt w6 rr Y p q := by rw [← Hrr.out]; exact recOp_rdt (hdx.below hb6)
          have hO6 := hO.keep hb6
          have hB6 : Below w.heap.size w w6 := hb.trans (hb6.mono hbs)
          have hz6 := hB6.size
          have hb7 : Below w6.heap.size w6 (w6.alloc (.cells (ra rr (.slice Y p q)) 29)) := (Below.refl _ _).alloc (Nat.le_refl _) _
          have hO7 := hO6.keep hb7
          have hB7 := hB6.trans (hb7.mono hz6)
          have hz7 := hB7.size
          have hd7 := hd6.below hb7
          have hnews : Rd (w6.alloc (.cells (ra rr (.slice Y p q)) 29)) (some ⟨w6.heap.size, 0, none⟩) 8 1 (rvs [(rr, .slice Y p q)]) := rd_new1 w6 rr Y p q _ rfl
          have hone : ∀ u ∈ rvs [(rr, Value.slice Y p q)], u.oneCell' = true := rvs_one (by simp)
          have hnext := fun (v8 : Value) (w8 : World) (hown8 : w8.ownsRow w.heap.size 29 8 v8 (i + 1 + 1) (rvs L ++ rvs [(rr, .slice Y p q)])) (hg8 : (w6.alloc (.cells (ra rr (.slice Y p q)) 29)).grownBy w8 (Value.slice Al (i + 1) cl).ownBlock) => hO7.app hg8 hown8 (fun p' hp' => by rw [List.mem_singleton.1 hp']; exact ⟨Y, p, q, rfl, hd7, hYb⟩)
          clear hO6 hb7 hd6 hd7 hO hdx hRR hrr hn5
          go_wp2_with fail
          go_region
          go_wp2_with (first
            | (at_builtin
               refine wpList_app _ rfl (.tmp 63) (.tmp 65) _ rfl w.heap.size 29 i0 (.agg ra0) 8 80 Try.underlying24 hi0 hz0 hz1 Hz.out rfl (by omega) (.slice Al (i + 1) cl) (i + 1) (rvs L) rfl hO7.row _ 1 1 _ rfl (by simp) hnews hone (by unfold maxLen; omega) (by omega) hz7 ?_
               intro v8 w8 hown8 hg8 hat8
               have hO8 := hnext v8 w8 hown8 hg8
               have hB8 : Below w.heap.size w w8 := hB7.grown hg8 hz7 (fun k hk => (hO7.row.lt k hk).1)
               obtain ⟨A8, c8, rfl, hc8, hm8, ha8⟩ := own_form hown8))
          go_roundw
          case rel => exact ⟨i + 1, L ++ [(rr, .slice Y p q)], by omega, by go_num, hO8, Lib.hid (by rw [HT.out, List.map_append, List.map_append, HL.out, ← Hrr.out]; simp), hB8⟩
          case measure => simp [intOf]; omega
    · have hin : i = n := by omega
      subst hin
      have HL2 := Lib.hid (show L.map Prod.fst = h :: ops.map recOp by rw [HL.out, List.take_of_length_le (by have := Hn.out; omega)])
      have hz6 : w.heap.size ≤ (wr.alloc (.cells #[.int .i64 4, .int .i64 0, .int .i64 0, .int .i64 0, .int .i64 0, .int .i64 0, .int .i64 (i : Int), .slice none 0 0] 29)).heap.size := by have := hb.size; simp; omega
      have hnews : Rd (wr.alloc (.cells #[.int .i64 4, .int .i64 0, .int .i64 0, .int .i64 0, .int .i64 0, .int .i64 0, .int .i64 (i : Int), .slice none 0 0] 29)) (some ⟨wr.heap.size, 0, none⟩) 8 1 (rvs [(tailR i, .slice none 0 0)]) := rd_new1 wr (tailR i) none 0 0 _ rfl
      have hone : ∀ u ∈ rvs [(tailR i, Value.slice none 0 0)], u.oneCell' = true := rvs_one (by simp)
      have hb6 : Below wr.heap.size wr (wr.alloc (.cells #[.int .i64 4, .int .i64 0, .int .i64 0, .int .i64 0, .int .i64 0, .int .i64 0, .int .i64 (i : Int), .slice none 0 0] 29)) := (Below.refl _ _).alloc (Nat.le_refl _) _
      have hO6 := hO.keep hb6
      have hB6 := hb.trans (hb6.mono hb.size)
      have hnext := fun (v7 : Value) (w7 : World) (hown7 : w7.ownsRow w.heap.size 29 8 v7 (i + 1 + 1) (rvs L ++ rvs [(tailR i, .slice none 0 0)])) (hg7 : (wr.alloc (.cells #[.int .i64 4, .int .i64 0, .int .i64 0, .int .i64 0, .int .i64 0, .int .i64 0, .int .i64 (i : Int), .slice none 0 0] 29)).grownBy w7 (Value.slice Al (i + 1) cl).ownBlock) => hO6.app hg7 hown7 (fun p hp => by rw [List.mem_singleton.1 hp]; exact ⟨none, 0, 0, rfl, rdt_nil _ (tailR i) rfl (Str.tail_sm (by omega)).fit, fun a ha => by cases ha⟩)
      clear ho hO hb hb6 HL
      go_wp2_with (first
        | (at_builtin
           refine wpList_app _ rfl (.tmp 67) (.tmp 71) _ rfl w.heap.size 29 i0 (.agg ra0) 8 80 Try.underlying24 hi0 hz0 hz1 Hz.out rfl (by omega) (.slice Al (i + 1) cl) (i + 1) (rvs L) rfl hO6.row _ 1 1 _ rfl (by simp) hnews hone (by unfold maxLen; omega) (by omega) hz6 ?_
           intro v7 w7 hown7 hg7 hat7
           have hO7 := hnext v7 w7 hown7 hg7
           have hB7 : Below w.heap.size w w7 := hB6.grown hg7 hz6 (fun k hk => (hO6.row.lt k hk).1)
           obtain ⟨A7, c7, rfl, hc7, hm7, ha7⟩ := own_form hown7)
        | (go_at_call 22
           refine (rcheck_ _ A7 i c7 _ hO7.rcl (by omega)).mono ?_
           have hLL : (L ++ [(tailR i, Value.slice none 0 0)]).map Prod.fst = bldL h ops := by
             rw [List.map_append, HL2.out]
             unfold bldL
             rw [← Hn.out, hbh.out]
             rfl
           rw [hLL]
           rintro e w8 ⟨er, rfl, hgood, hb8⟩
           have hO8 := hO7.keep hb8
           have hB8 : Below w.heap.size w w8 := hB7.trans (hb8.mono hB7.size)
           clear hO7 hb8 hB7 hO6 hB6 hnext))
      · rename_i hE0
        go_ret2
        have hE1 : er ≠ 0 := by simpa using hE0
        exact .inl ⟨er, hE1, rfl, hB8⟩
      · rename_i hE0
        go_ret2
        have hE1 : er = 0 := by simpa using hE0
        exact .inr ⟨A7, i + 1 + 1, c7, _, rfl, hO8, hLL, hgood hE1, hB8⟩
end
end Lan
end Go.Proofs.Ytganoklclnbjkaa

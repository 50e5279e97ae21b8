/- Layer 9: the document's young. -/
import Derived.Test.YtfdfjnepfgabaaaDelT
set_option linter.all false
namespace Go.Proofs.Ytfdfjnepfgabaaa
open Go.RowKit

def yp (y : Nat → Bool) (i j : Nat) : Bool := decide (j < i) && y j
theorem yp_zero (y : Nat → Bool) : yp y 0 = fun _ => false := by funext j; simp [yp]
theorem yp_succ (y : Nat → Bool) (i : Nat) : yp y (i + 1) = fun j => if j = i then y i else yp y i j := by
  funext j
  unfold yp
  by_cases e : j = i
  · subst e; simp
  · rw [if_neg e]
    have : decide (j < i + 1) = decide (j < i) := by simp; omega
    rw [this]
theorem tva_yp (y : Nat → Bool) (n : Nat) : tva n (yp y n) = tva n y := by
  unfold tva
  refine congrArg List.toArray ?_
  unfold Blo.tvs
  refine List.map_congr_left fun i hi => ?_
  have := List.mem_range.1 hi
  simp [yp, this]
section
variable (w : World)
set_option maxRecDepth 100000 in
set_option maxHeartbeats 4000000 in
theorem ryoung_ (A B : Option Addr) (n c m d : Nat) (a b : List Ext) (gen : Int) (ha : Es w A n a) (hb : Es w B m b) (hra : rightB a = true) (hrb : rightB b = true) :
    Calls Try.prog 33 #[.slice A n c, .slice B m d, .int .i64 gen] w fun e w' => ∃ g, e = .returned (.slice (some ⟨g, 0, none⟩) 1024 1024) ∧ Blk w' g 4 (tva 1024 (youngF a b gen)) ∧ w.heap.size ≤ g ∧ Below w.heap.size w w' := by
  obtain ⟨i0, hi0, hz0, hz1, hz2⟩ := Blo.bool_info
  have Hz := Lib.hid hz2
  clear hz2
  obtain ⟨y, hy⟩ : ∃ y, youngF a b gen = y := ⟨_, rfl⟩
  rw [hy]
  have Hy := Lib.hid hy
  clear hy
  go_enter Try.func33, Try.ntmps33
  go_wp2_with fail
  refine (rall_ w A n c a ha hra).mono ?_
  rintro e w2 ⟨rfl, hk2, hb2⟩
  go_wp2_with fail
  refine (rall_ w2 B m d b (hb.below hb2) hrb).mono ?_
  rintro e w3 ⟨rfl, hk3, hb3⟩
  have hB3 := below_step hb2 hb3 (Nat.le_refl _)
  have hk2' := hk2.keep hb3
  have hs2 := hb2.size
  have hs3 := hb3.size
  have hlt2 := hk2.lt
  have hlt3 := hk3.lt
  generalize hga : w.heap.size = ga at *
  generalize hgb : w2.heap.size = gb at *
  go_wp2_with (first
    | (at_make
       refine wpList_make_blk _ rfl _ _ 82 rfl 4 i0 _ 1 1 Try.underlying82 hi0 hz0 hz1 Hz.out .i64 .i64 _ _ 1024 rfl rfl rfl rfl (by omega) (by omega) ?_
       intro w4 hk4 hb4 hs4))
  have hk5 : Blk w4 w3.heap.size 4 (tva 1024 (yp y 0)) := by
    rw [yp_zero, show tva 1024 (fun _ => false) = madeCells (Value.bool false).cells (1024 * 1) from Array.toList_inj.1 (by rw [Nat.mul_one]; exact (Blo.tvs_false 1024).trans (Blo.made_list 1024 _).symm)]
    exact hk4
  have hka := hk2'.keep hb4
  have hkb := hk3.keep hb4
  have hB4 : Below ga w w4 := hB3.trans (hb4.mono (by omega))
  generalize hgy : w3.heap.size = gy at *
  clear hk4 hk2' hk2 hk3 hb2 hb3 hB3 hb4
  go_loopw [10] (fun iv wr => ∃ i : Nat, i ≤ 1024 ∧ iv = .int .i64 (i : Int) ∧ Blk wr gy 4 (tva 1024 (yp y i)) ∧ Blk wr ga 73 (raN 1024 (atL a)) ∧ Blk wr gb 73 (raN 1024 (atL b)) ∧ Below ga w wr) (fun iv _ => 1024 - (intOf iv).toNat)
  case atStart => exact ⟨0, Nat.zero_le _, rfl, hk5, hka, hkb, hB4⟩
  case round =>
    obtain ⟨i, hi, rfl, hk, hka, hkb, hbb⟩ := hrel
    clear hk5 hB4
    by_cases hlt : i < 1024
    · have hiI : (i : Int) < 1024 := by omega
      have hi0 : (0 : Int) ≤ (i : Int) := by omega
      have q0 : wr.cell? ⟨gy, i, none⟩ = some (.bool (yp y i i)) := hk.cell (tva_at _ hlt)
      have q1 := hk.free i
      have hfin : Blk (wr.setCell ⟨gy, i, none⟩ (.bool (y i))) gy 4 (tva 1024 (yp y (i + 1))) ∧ Blk (wr.setCell ⟨gy, i, none⟩ (.bool (y i))) ga 73 (raN 1024 (atL a)) ∧ Blk (wr.setCell ⟨gy, i, none⟩ (.bool (y i))) gb 73 (raN 1024 (atL b)) ∧ Below ga w (wr.setCell ⟨gy, i, none⟩ (.bool (y i))) := by
        have hgr := grown_setCell wr ⟨gy, i, none⟩ (.bool (y i))
        refine ⟨?_, hka.grown hgr (fun e => by simp at e; omega), hkb.grown hgr (fun e => by simp at e; omega), hbb.setCell (p := ⟨gy, i, none⟩) (by simp; omega) _⟩
        have := hk.setCell i (.bool (y i))
        rw [tva_set (y i) (yp_succ y i)] at this
        exact this
      have hyi : y i = isYoung gen (atL a (i : Int)) (atL b (i : Int)) := by rw [← Hy.out]; rfl
      have Hfin := Lib.hid hfin
      clear hfin hk
      cases hb2 : atL b (i : Int) with
      | none =>
        obtain ⟨d0, d1, d2⟩ := ra_cells hkb hlt (x := false) (p := 0) (r := 0) (by rw [hb2]; rfl)
        cases ha2 : atL a (i : Int) with
        | none =>
          obtain ⟨c0, c1, c2⟩ := ra_cells hka hlt (x := false) (p := 0) (r := 0) (by rw [ha2]; rfl)
          rw [ha2, hb2] at hyi
          have hyi2 : y i = false := hyi
          rw [hyi2] at Hfin
          clear hyi hyi2
          go_wp2
          go_roundw
          case rel => exact ⟨i + 1, by omega, by go_num, Hfin.out⟩
          case measure => simp [intOf]; omega
        | some v =>
          obtain ⟨p, r⟩ := v
          obtain ⟨c0, c1, c2⟩ := ra_cells hka hlt (x := true) (p := p) (r := r) (by rw [ha2]; rfl)
          rw [ha2, hb2] at hyi
          have hyi2 : y i = true := hyi
          rw [hyi2] at Hfin
          clear hyi hyi2
          go_wp2
          go_roundw
          case rel => exact ⟨i + 1, by omega, by go_num, Hfin.out⟩
          case measure => simp [intOf]; omega
      | some v =>
        obtain ⟨p, r⟩ := v
        obtain ⟨d0, d1, d2⟩ := ra_cells hkb hlt (x := true) (p := p) (r := r) (by rw [hb2]; rfl)
        obtain ⟨x, p2, r2, hab⟩ : ∃ x p2 r2, ab (atL a (i : Int)) = [.bool x, .int .i64 p2, .int .i64 r2] := by
          cases atL a (i : Int) with
          | none => exact ⟨false, 0, 0, rfl⟩
          | some v => exact ⟨true, v.1, v.2, rfl⟩
        obtain ⟨c0, c1, c2⟩ := ra_cells hka hlt hab
        rw [hb2] at hyi
        have hyi2 : y i = decide (gen < r) := by rw [hyi]; cases atL a (i : Int) <;> rfl
        rw [hyi2] at Hfin
        clear hyi hyi2 hab
        by_cases hgr : gen < r
        · have hd : decide (gen < r) = true := decide_eq_true hgr
          rw [hd] at Hfin
          go_wp2
          go_roundw
          case rel => exact ⟨i + 1, by omega, by go_num, Hfin.out⟩
          case measure => simp [intOf]; omega
        · have hd : decide (gen < r) = false := decide_eq_false hgr
          rw [hd] at Hfin
          cases x <;>
            (go_wp2
             go_roundw
             case rel => exact ⟨i + 1, by omega, by go_num, Hfin.out⟩
             case measure => simp [intOf]; omega)
    · have hge : (1024 : Int) ≤ (i : Int) := by omega
      have he : i = 1024 := by omega
      subst he
      rw [tva_yp] at hk
      go_wp2
      go_ret
      exact ⟨gy, rfl, hk, by omega, by rw [hga]; exact hbb⟩
end
end Go.Proofs.Ytfdfjnepfgabaaa

/- The document's disk: Flush. -/
import Derived.Test.YtbppkdfmiegipaaRefV
namespace Go.Proofs.Ytbppkdfmiegipaa
open Go.RowKit Go.Maps

/-- A sector and its flag are written, in whichever order. -/
structure Wrote (w w' : World) (G : RG) (i : Nat) (v : Value) : Prop where
  cell : ∀ p : Addr, p ≠ ⟨G.pb, i, none⟩ → p ≠ ⟨G.qb, i, none⟩ → w'.cell? p = w.cell? p
  atP : w'.cell? ⟨G.pb, i, none⟩ = some v
  atQ : w'.cell? ⟨G.qb, i, none⟩ = some (.bool false)
  frozen : ∀ p, w'.frozen? p = w.frozen? p
  tn : Tn G.lo (G.rb + 1) w w'
  self : w'.heap[G.rb]? = w.heap[G.rb]?
theorem addr_ne {b o b' o' : Nat} (h : b ≠ b') : (⟨b, o, none⟩ : Addr) ≠ ⟨b', o', none⟩ := by intro e; injection e with e; exact h e
theorem addr_ne2 {b o o' : Nat} (h : o ≠ o') : (⟨b, o, none⟩ : Addr) ≠ ⟨b, o', none⟩ := by intro e; injection e with _ e _; exact h e
theorem Wrote.pq {w : World} {G : RG} {i : Nat} {v u0 u1 : Value} (ha : G.apart) (hp : w.cell? ⟨G.pb, i, none⟩ = some u0) (hq : w.cell? ⟨G.qb, i, none⟩ = some u1) :
    Wrote w ((w.setCell ⟨G.pb, i, none⟩ v).setCell ⟨G.qb, i, none⟩ (.bool false)) G i v where
  cell p h1 h2 := by rw [World.cell?_setCell_other _ _ _ _ (Ne.symm h2), World.cell?_setCell_other _ _ _ _ (Ne.symm h1)]
  atP := cell_far (cell_same hp) ha.pq.symm
  atQ := cell_same (cell_far hq ha.pq)
  frozen p := by rw [World.frozen?_setCell, World.frozen?_setCell]
  tn := (Tn.set _ _ _ (by have := ha.p; omega) (by have := ha.p; omega)).trans (Tn.set _ _ _ (by have := ha.q; omega) (by have := ha.q; omega))
  self := by
    have := ha.p
    have := ha.q
    rw [RowKit.Below.heap_setCell _ _ _ _ (by simp; omega), RowKit.Below.heap_setCell _ _ _ _ (by simp; omega)]
theorem Wrote.qp {w : World} {G : RG} {i : Nat} {v u0 u1 : Value} (ha : G.apart) (hp : w.cell? ⟨G.pb, i, none⟩ = some u0) (hq : w.cell? ⟨G.qb, i, none⟩ = some u1) :
    Wrote w ((w.setCell ⟨G.qb, i, none⟩ (.bool false)).setCell ⟨G.pb, i, none⟩ v) G i v where
  cell p h1 h2 := by rw [World.cell?_setCell_other _ _ _ _ (Ne.symm h1), World.cell?_setCell_other _ _ _ _ (Ne.symm h2)]
  atP := cell_same (cell_far hp ha.pq.symm)
  atQ := cell_far (cell_same hq) ha.pq
  frozen p := by rw [World.frozen?_setCell, World.frozen?_setCell]
  tn := (Tn.set _ _ _ (by have := ha.q; omega) (by have := ha.q; omega)).trans (Tn.set _ _ _ (by have := ha.p; omega) (by have := ha.p; omega))
  self := by
    have := ha.p
    have := ha.q
    rw [RowKit.Below.heap_setCell _ _ _ _ (by simp; omega), RowKit.Below.heap_setCell _ _ _ _ (by simp; omega)]
theorem Wrote.q {w : World} {G : RG} {i : Nat} {v u1 : Value} (ha : G.apart) (hp : w.cell? ⟨G.pb, i, none⟩ = some v) (hq : w.cell? ⟨G.qb, i, none⟩ = some u1) :
    Wrote w (w.setCell ⟨G.qb, i, none⟩ (.bool false)) G i v where
  cell p _ h2 := World.cell?_setCell_other _ _ _ _ (Ne.symm h2)
  atP := cell_far hp ha.pq.symm
  atQ := cell_same hq
  frozen p := World.frozen?_setCell _ _ _ _
  tn := Tn.set _ _ _ (by have := ha.q; omega) (by have := ha.q; omega)
  self := by
    have := ha.q
    rw [RowKit.Below.heap_setCell _ _ _ _ (by simp; omega)]
theorem Sec.wrote {w w' : World} {G : RG} {i : Nat} {v v' : Value} {x : List UInt8} (h : Sec w G v' x) (hw : Wrote w w' G i v) : Sec w' G v' x := by
  obtain ⟨d, c, e, h1, h2, h3, h4⟩ := h
  refine ⟨d, c, e, h1, h2, ⟨h3.1, fun j u hu => ?_⟩, h4⟩
  obtain ⟨b, o, e, hc⟩ := h3.2 j u hu
  injection e with e
  injection e with e1 e2
  subst e1 e2
  exact ⟨d, 0, rfl, by rw [hw.cell _ (addr_ne h4.2.1) (addr_ne h4.2.2.2.1)]; exact hc⟩
/-- Sector i is on the disk as x, and is not in the cache. -/
theorem rk_turn {w w' : World} {G : RG} {s : DS} (h : Rk w G s) {i : Nat} (hi : i < s.n) {v : Value} {x : List UInt8} (hw : Wrote w w' G i v) (hv : Sec w G v x) :
    Rk w' G { s with plate := fun j => if j = i then x else s.plate j, cache := put s.cache i none } := by
  have ha := h.apart
  refine ⟨hw.self.trans h.self, fun j hj => ?_, fun j hj => ?_, fun j hj => ?_, ha, h.most, h.least, h.fuse, h.caps⟩
  · by_cases e : j = i
    · subst e
      obtain ⟨_, _, h2, _⟩ := h.plate j hj
      simp only [if_true]
      exact ⟨v, hw.atP, by rw [hw.frozen]; exact h2, hv.wrote hw⟩
    · obtain ⟨v', h1, h2, h3⟩ := h.plate j hj
      simp only [if_neg e]
      exact ⟨v', by rw [hw.cell _ (addr_ne2 e) (addr_ne ha.pq)]; exact h1, by rw [hw.frozen]; exact h2, h3.wrote hw⟩
  · obtain ⟨A, m, c, h1, h2, h3⟩ := h.cache j hj
    refine ⟨A, m, c, by rw [hw.cell _ (addr_ne ha.pc.symm) (addr_ne ha.cq)]; exact h1, by rw [hw.frozen]; exact h2, fun y hy => ?_⟩
    by_cases e : j = i
    · subst e
      simp only [put_same] at hy
      cases hy
    · simp only [put_other _ _ e] at hy
      exact (h3 y hy).wrote hw
  · obtain ⟨h1, h2⟩ := h.cached j hj
    by_cases e : j = i
    · subst e
      simp only [put_same]
      exact ⟨hw.atQ, by rw [hw.frozen]; exact h2⟩
    · simp only [put_other _ _ e]
      exact ⟨by rw [hw.cell _ (addr_ne ha.pq.symm) (addr_ne2 e)]; exact h1, by rw [hw.frozen]; exact h2⟩

/-- What a Flush has come to, ahead of sector i. -/
def flushing (s : DS) (i : Nat) : DS := { s with plate := fun j => if j < i then s.look j else s.plate j, cache := fun j => if j < i then none else s.cache j }
theorem Rk.flush_none {w : World} {G : RG} {s : DS} {i : Nat} (h : Rk w G (flushing s i)) (hc : s.cache i = none) : Rk w G (flushing s (i + 1)) :=
  h.congr rfl (fun j _ => by
    simp only [flushing]
    by_cases h1 : j < i
    · rw [if_pos h1, if_pos (by omega)]
    · rw [if_neg h1]
      by_cases h2 : j = i
      · subst h2; rw [if_pos (by omega)]; simp [DS.look, hc]
      · rw [if_neg (by omega)]) (fun j _ => by
    simp only [flushing]
    by_cases h1 : j < i
    · rw [if_pos h1, if_pos (by omega)]
    · rw [if_neg h1]
      by_cases h2 : j = i
      · subst h2; rw [if_pos (by omega), hc]
      · rw [if_neg (by omega)]) rfl rfl
theorem Rk.flush_some {w w' : World} {G : RG} {s : DS} {i : Nat} (h : Rk w G (flushing s i)) (hi : i < s.n) {x : List UInt8} (hc : s.cache i = some x) {v : Value} (hw : Wrote w w' G i v) (hv : Sec w G v x) : Rk w' G (flushing s (i + 1)) :=
  (rk_turn h hi hw hv).congr rfl (fun j _ => by
    simp only [flushing]
    by_cases h2 : j = i
    · subst h2; rw [if_pos rfl, if_pos (by omega)]; simp [DS.look, hc]
    · rw [if_neg h2]
      by_cases h1 : j < i
      · rw [if_pos h1, if_pos (by omega)]
      · rw [if_neg h1, if_neg (by omega)]) (fun j _ => by
    simp only [flushing]
    by_cases h2 : j = i
    · subst h2; rw [put_same, if_pos (by omega)]
    · rw [put_other _ _ h2]
      by_cases h1 : j < i
      · rw [if_pos h1, if_pos (by omega)]
      · rw [if_neg h1, if_neg (by omega)]) rfl rfl

section
variable (G : RG) (s : DS)
set_option maxRecDepth 100000 in
theorem rflush_down (w : World) (h : Rk w G s) (ho : s.step.on = false) :
    Calls Try.prog 18 #[.pointer (some ⟨G.rb, 0, none⟩)] w fun e w' => e = .returned (.int .i64 8) ∧ Rk w' G s.step ∧ Tn G.lo (G.rb + 1) w w' := by
  have Ho := Lib.hid ho
  have ha := h.apart.p
  clear ho
  go_enter Try.func18, Try.ntmps18
  go_wp2_with fail
  refine (rstep_ G s w h).mono ?_
  rw [Ho.out]
  rintro e w1 ⟨rfl, h1, ht1⟩
  go_wp2
  go_ret
  exact ⟨rfl, h1, ht1.wide (by omega) (Nat.le_refl _)⟩
set_option maxRecDepth 100000 in
set_option maxHeartbeats 2000000 in
theorem rflush_ok (w : World) (h : Rk w G s) (ho : s.step.on = true) :
    Calls Try.prog 18 #[.pointer (some ⟨G.rb, 0, none⟩)] w fun e w' => e = .returned (.int .i64 0) ∧ Rk w' G { s.step with plate := s.look, cache := fun _ => none } ∧ Tn G.lo (G.rb + 1) w w' := by
  have Ho := Lib.hid ho
  have hlk : s.step.look = s.look := by funext j; unfold DS.look; rw [step_cache, step_plate]
  rw [← hlk]
  have hap := h.apart
  clear ho hlk
  go_enter Try.func18, Try.ntmps18
  go_wp2_with fail
  refine (rstep_ G s w h).mono ?_
  rw [Ho.out]
  rintro e w1 ⟨rfl, h1, ht1⟩
  have htw : Tn G.lo (G.rb + 1) w w1 := ht1.wide (by have := hap.p; omega) (Nat.le_refl _)
  have hf1 : Rk w1 G (flushing s.step 0) := h1.congr rfl (fun j _ => by simp [flushing]) (fun j _ => by simp [flushing]) rfl rfl
  have hmost := h1.most
  have hcaps := h1.caps
  have n1 : G.pb ≠ G.rb := by have := hap.p; omega
  have n2 : G.qb ≠ G.rb := by have := hap.q; omega
  have n3 : G.pb ≠ G.cb := hap.pc
  have n4 : G.qb ≠ G.cb := hap.cq.symm
  have n5 : G.pb ≠ G.qb := hap.pq
  clear h h1 ht1 Ho
  go_wp2_with fail
  go_loopw [3] (fun iv wr => ∃ i : Nat, i ≤ s.step.n ∧ iv = .int .i64 (i : Int) ∧ Rk wr G (flushing s.step i) ∧ Tn G.lo (G.rb + 1) w wr) (fun iv _ => s.step.n - (intOf iv).toNat)
  case atStart => exact ⟨0, Nat.zero_le _, rfl, hf1, htw⟩
  case round =>
    obtain ⟨i, hi, rfl, hr, ht⟩ := hrel
    clear hf1 htw
    have c0 := hr.self.cell (j := 0) (u := .slice (some ⟨G.pb, 0, none⟩) s.step.n G.pc) rfl
    have c1 := hr.self.cell (j := 1) (u := .slice (some ⟨G.cb, 0, none⟩) s.step.n G.cc) rfl
    have c2 := hr.self.cell (j := 2) (u := .slice (some ⟨G.qb, 0, none⟩) s.step.n s.step.n) rfl
    by_cases hlt : i < s.step.n
    · have hil : (i : Int) < (s.step.n : Int) := by omega
      have hi0 : 0 ≤ (i : Int) := by omega
      have hcs : (flushing s.step i).cache i = s.step.cache i := by simp [flushing]
      obtain ⟨cq, fq⟩ := hr.cached i hlt
      rw [hcs] at cq
      cases hc : s.step.cache i with
      | none =>
        have hr2 := hr.flush_none hc
        rw [hc] at cq
        clear hc hcs
        go_wp2_with fail
        go_roundw
        case rel => exact ⟨i + 1, by omega, by go_num, hr2, ht⟩
        case measure => simp [intOf]; omega
      | some x =>
        obtain ⟨A, m, c, hcc, _, hsec⟩ := hr.cache i hlt
        obtain ⟨v0, hp0, fp, _⟩ := hr.plate i hlt
        have hsec2 := hsec x (by rw [hcs]; exact hc)
        rw [hc] at cq
        have HC := Lib.hid hc
        have d0 : wr.drew.cell? ⟨G.rb, 0, none⟩ = some (.slice (some ⟨G.pb, 0, none⟩) s.step.n G.pc) := c0
        have d1 : wr.drew.cell? ⟨G.rb, 1, none⟩ = some (.slice (some ⟨G.cb, 0, none⟩) s.step.n G.cc) := c1
        have d2 : wr.drew.cell? ⟨G.rb, 2, none⟩ = some (.slice (some ⟨G.qb, 0, none⟩) s.step.n s.step.n) := c2
        have d3 : wr.drew.cell? ⟨G.cb, i, none⟩ = some (.slice A m c) := hcc
        have hA : ∀ u, (wr.drew.setCell ⟨G.pb, i, none⟩ u).cell? ⟨G.qb, i, none⟩ = some (.bool true) := fun u => cell_far (w := wr.drew) cq n5
        have hB : ∀ u, (wr.drew.setCell ⟨G.qb, i, none⟩ u).cell? ⟨G.pb, i, none⟩ = some v0 := fun u => cell_far (w := wr.drew) hp0 n5.symm
        clear hc hcs hsec
        go_wp2_with fail
        go_region_held3 (fun w' => w'.cell? ⟨G.rb, 0, none⟩ = some (.slice (some ⟨G.pb, 0, none⟩) s.step.n G.pc) ∧ w'.cell? ⟨G.rb, 1, none⟩ = some (.slice (some ⟨G.cb, 0, none⟩) s.step.n G.cc) ∧ w'.cell? ⟨G.rb, 2, none⟩ = some (.slice (some ⟨G.qb, 0, none⟩) s.step.n s.step.n) ∧ w'.cell? ⟨G.cb, i, none⟩ = some (.slice A m c))
          (first
            | exact ⟨d0, d1, d2, d3⟩
            | exact ⟨cell_far d0 n1, cell_far d1 n1, cell_far d2 n1, cell_far d3 n3⟩
            | exact ⟨cell_far d0 n2, cell_far d1 n2, cell_far d2 n2, cell_far d3 n4⟩
            | exact ⟨cell_far (cell_far d0 n1) n2, cell_far (cell_far d1 n1) n2, cell_far (cell_far d2 n1) n2, cell_far (cell_far d3 n3) n4⟩
            | exact ⟨cell_far (cell_far d0 n2) n1, cell_far (cell_far d1 n2) n1, cell_far (cell_far d2 n2) n1, cell_far (cell_far d3 n4) n3⟩)
          (first | fail)
        · have hw := Wrote.pq (v := .slice A m c) hap hp0 cq
          have hr2 := (hr.flush_some hlt HC.out hw hsec2).drew
          have ht2 := (ht.trans hw.tn).drewR
          go_wp2_with fail
          go_roundw
          case rel => exact ⟨i + 1, by omega, by go_num, hr2, ht2⟩
          case measure => simp [intOf]; omega
    · have hil : (s.step.n : Int) ≤ (i : Int) := by omega
      have hre : Rk wr G { s.step with plate := s.step.look, cache := fun _ => none } := hr.congr rfl (fun j hj => by
        have : j < i := by have : j < s.step.n := hj; omega
        simp only [flushing]; rw [if_pos this]) (fun j hj => by
        have : j < i := by have : j < s.step.n := hj; omega
        simp only [flushing]; rw [if_pos this]) rfl rfl
      go_wp2
      go_ret
      exact ⟨rfl, hre, ht⟩
/-- Flush. -/
theorem rflush_ (w : World) (h : Rk w G s) :
    Calls Try.prog 18 #[.pointer (some ⟨G.rb, 0, none⟩)] w fun e w' => e = .returned (.int .i64 (s.flush.1 : Int)) ∧ Rk w' G s.flush.2 ∧ Tn G.lo (G.rb + 1) w w' := by
  unfold DS.flush
  cases ho : s.step.on with
  | true => rw [if_pos rfl]; exact rflush_ok G s w h ho
  | false => rw [if_neg (by simp)]; exact rflush_down G s w h ho
end
end Go.Proofs.Ytbppkdfmiegipaa

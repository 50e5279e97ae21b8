/- Layer 15: whatever is done to a bag, it answers as the document's (NetPlays). No condition. -/
import Derived.Test.YtallbhdfbkkjkaaNetAr
import Derived.Test.YtallbhdfbkkjkaaNetRd
import Derived.Test.YtallbhdfbkkjkaaNetRe
set_option linter.all false
namespace Go.Proofs.Ytallbhdfbkkjkaa
open Go.ChangeShapes Go.WideShapes Go.ChangeAt Go.RowKit
namespace Net
theorem enters_P1 (vs : Array Value) (w : World) : (callFunc 18 vs).run Try.prog w = .ok (.enter 18 vs) w := by go_simp
theorem enters_P2 (vs : Array Value) (w : World) : (callFunc 19 vs).run Try.prog w = .ok (.enter 19 vs) w := by go_simp
theorem enters_W1 (vs : Array Value) (w : World) : (callFunc 22 vs).run Try.prog w = .ok (.enter 22 vs) w := by go_simp
theorem enters_W2 (vs : Array Value) (w : World) : (callFunc 23 vs).run Try.prog w = .ok (.enter 23 vs) w := by go_simp
theorem enters_U1 (vs : Array Value) (w : World) : (callFunc 24 vs).run Try.prog w = .ok (.enter 24 vs) w := by go_simp
theorem enters_U2 (vs : Array Value) (w : World) : (callFunc 25 vs).run Try.prog w = .ok (.enter 25 vs) w := by go_simp
theorem enters_Z (vs : Array Value) (w : World) : (callFunc 26 vs).run Try.prog w = .ok (.enter 26 vs) w := by go_simp
theorem drew_below (w : World) : Below w.heap.size w w.drew := ⟨rfl, rfl, rfl, Nat.le_refl _, fun _ _ => rfl⟩
theorem mod4p {kd r : Nat} (h : kd % 4 = r) (j : Int) : ((kd : Int) % 4 == j) = decide (j = (r : Int)) := by
  by_cases e : j = (r : Int)
  · subst e; simp; omega
  · rw [decide_eq_false e, beq_eq_false_iff_ne]; omega
/-- A bag and the document's, each in its own memory. -/
structure Two (w wr : World) (b r : Nat) (U V : Nat → Prop) (l m : List Gr) : Prop where
  bag : Bg wr b b U l
  ref : Rg wr r V m
  UV : ∀ k, U k → ¬ V k
  Vb : ¬ V b
  Ur : ¬ U r
  Vr : ¬ V r
  rb : r ≠ b
  Ul : ∀ k, U k → b ≤ k ∧ k < wr.heap.size
  Vl : ∀ k, V k → k < wr.heap.size
  low : Below b w wr
  br : b ≤ r
section
variable {w wr w2 : World} {b r : Nat} {U V U' V' : Nat → Prop} {l m l' m' : List Gr}
theorem Two.Ub (h : Two w wr b r U V l m) : ¬ U b := by
  obtain ⟨v, L, e, hX⟩ := h.bag
  exact hX.out
theorem Two.keep (h : Two w wr b r U V l m) (hb : Below wr.heap.size wr w2) : Two w w2 b r U V l m :=
  ⟨h.bag.keep hb, h.ref.keep hb, h.UV, h.Vb, h.Ur, h.Vr, h.rb, fun k hk => ⟨(h.Ul k hk).1, Nat.lt_of_lt_of_le (h.Ul k hk).2 hb.size⟩, fun k hk => Nat.lt_of_lt_of_le (h.Vl k hk) hb.size, h.low.trans (hb.mono (by have := h.bag.lt; omega)), h.br⟩
theorem Two.bagLow (h : Two w wr b r U V l m) (hF : Fu (Sb b U) wr w2) : Below b w w2 :=
  h.low.trans (hF.below (by have := h.bag.lt; omega) (fun j hj => hj.elim (fun e => by omega) (fun e => (h.Ul j e).1)))
theorem Two.refLow (h : Two w wr b r U V l m) (hF : Fu (fun k => k = r) wr w2) : Below b w w2 :=
  h.low.trans (hF.below (by have := h.bag.lt; omega) (fun j hj => by have := h.br; omega))
theorem Two.bagTo (h : Two w wr b r U V l m) (hG : Bg w2 b b U' l') (hF : Fu (Sb b U) wr w2) (hU : ∀ k, U' k → U k ∨ wr.heap.size ≤ k) : Two w w2 b r (fun k => U' k ∧ b ≤ k ∧ k < w2.heap.size) V l' m := by
  have hbl := h.bag.lt
  have hrl := h.ref.lt
  have hU2 : ∀ k, U' k → b ≤ k := fun k hk => (hU k hk).elim (fun e => (h.Ul k e).1) (fun e => by omega)
  exact ⟨hG.sub (fun k hk hl => ⟨hk, hU2 k hk, hl⟩) (fun e => (hU b e.1).elim h.Ub (fun e => by omega)), h.ref.fu hF (fun k hk e => e.elim (fun e => h.Vb (e ▸ hk)) (fun e => h.UV k e hk)) (fun e => e.elim h.rb h.Ur), fun k hk hv => (hU k hk.1).elim (fun e => h.UV k e hv) (fun e => by have := h.Vl k hv; omega), h.Vb, fun e => (hU r e.1).elim h.Ur (fun e => by omega), h.Vr, h.rb, fun k hk => hk.2, fun k hk => Nat.lt_of_lt_of_le (h.Vl k hk) hF.size, h.bagLow hF, h.br⟩
theorem Two.refTo (h : Two w wr b r U V l m) (hR : Rg w2 r V' m') (hF : Fu (fun k => k = r) wr w2) (hV : ∀ k, V' k → V k ∨ wr.heap.size ≤ k) : Two w w2 b r U (fun k => V' k ∧ k < w2.heap.size) l m' := by
  have hbl := h.bag.lt
  have hrl := h.ref.lt
  exact ⟨h.bag.fu hF (fun k hk e => h.Ur (e ▸ hk)) (fun e => h.rb e.symm), hR.sub (fun k hk hl => ⟨hk, hl⟩), fun k hu hv => (hV k hv.1).elim (h.UV k hu) (fun e => by have := (h.Ul k hu).2; omega), fun e => (hV b e.1).elim h.Vb (fun e => by omega), h.Ur, fun e => (hV r e.1).elim h.Vr (fun e => by omega), h.rb, fun k hk => ⟨(h.Ul k hk).1, Nat.lt_of_lt_of_le (h.Ul k hk).2 hF.size⟩, fun k hk => hk.2, h.refLow hF, h.br⟩
theorem k5 {g : Nat} {t : TypeId} {a : Act} {v : Value} (h : Blk w g t (aa a v)) : w.cell? ⟨g, 0, none⟩ = some (.int .u8 (a.kd : Int)) ∧ w.cell? ⟨g, 1, none⟩ = some (.int .i64 a.i) ∧ w.cell? ⟨g, 2, none⟩ = some (.int .i64 a.at_) ∧ w.cell? ⟨g, 3, none⟩ = some (.int .u8 (a.y.toNat : Int)) ∧ w.cell? ⟨g, 4, none⟩ = some v :=
  ⟨h.cell (j := 0) rfl, h.cell (j := 1) rfl, h.cell (j := 2) rfl, h.cell (j := 3) rfl, h.cell (j := 4) rfl⟩
theorem rg_new (w : World) : Rg (w.alloc (.cells #[.slice none 0 0] 45)) w.heap.size (fun _ => False) [] :=
  ⟨none, 0, 0, [], rfl, ⟨Blk.new w _ _ rfl, rd_own (own_nil _ 0 91 2), fun _ => rfl, Nat.le_refl _, by omega, rfl, fun a e => (by cases e), fun p hp => (by cases hp), by omega⟩⟩
end
section
variable (w : World)
set_option maxRecDepth 100000 in
set_option maxHeartbeats 8000000 in
theorem plays_walk (S : Option Addr) (k d : Nat) (al : List Act) (hs : Acs w S k al) (hkd : k ≤ d) (hd : d * 56 ≤ 140737488351232) :
    Calls Try.prog 6 #[.slice S k d] w fun e w' => e = .returned (.bool true) ∧ Below w.heap.size w w' := by
  have HS := Lib.hid hs
  clear hs
  go_enter Try.func6, Try.ntmps6
  go_wp2_with fail
  refine (bnew_ w).mono ?_
  rintro e w1 ⟨rfl, hG1, hb1, hs1⟩
  obtain ⟨b, hb⟩ : ∃ b, w.heap.size = b := ⟨_, rfl⟩
  rw [hb] at hG1 hs1 ⊢
  have hb2 : Below w1.heap.size w1 (w1.alloc (.cells #[.slice none 0 0] 45)) := (Below.refl _ _).alloc (Nat.le_refl _) _
  have hR2 := rg_new w1
  have hT2 : Two w (w1.alloc (.cells #[.slice none 0 0] 45)) b w1.heap.size (fun _ => False) (fun _ => False) [] [] :=
    ⟨hG1.keep hb2, hR2, fun _ e => e.elim, fun e => e, fun e => e, fun e => e, by omega, fun _ e => e.elim, fun _ e => e.elim, by rw [← hb]; exact below_step hb1 hb2 (Nat.le_refl _), by omega⟩
  obtain ⟨r, hr⟩ : ∃ r, w1.heap.size = r := ⟨_, rfl⟩
  rw [hr] at hT2
  clear hG1 hb1 hb2 hR2 hs1
  have Hr := Lib.hid hr
  clear hr
  go_wp2_with fail
  refine (alive_ _).mono ?_
  rintro e w2 ⟨rfl, hb3⟩
  have hT3 := hT2.keep hb3
  rw [Hr.out]
  clear hT2 hb3 Hr
  go_wp2_with fail
  go_loopw [23] (fun iv wr => ∃ (j : Nat) (U V : Nat → Prop) (l : List Gr), j ≤ k ∧ iv = .int .i64 (j : Int) ∧ Two w wr b r U V l l) (fun iv _ => k - (intOf iv).toNat)
  case atStart => exact ⟨0, _, _, [], Nat.zero_le _, rfl, hT3⟩
  case round =>
    clear hT3
    obtain ⟨j, U, V, l, hj, rfl, hT⟩ := hrel
    by_cases hlt : j < k
    · have hjl : (j : Int) < (k : Int) := by omega
      have hj0 : (0 : Int) ≤ (j : Int) := by omega
      obtain ⟨bs, os, a, X, m, cc, rfl, -, hAd, z0, z1, z2, z3, z4⟩ := HS.out.at_ j hlt
      have hW : Below w.heap.size w wr := by rw [hb]; exact hT.low
      have c0 := (hW.cell (cell_lt z0)).trans z0
      have c1 := (hW.cell (cell_lt z1)).trans z1
      have c2 := (hW.cell (cell_lt z2)).trans z2
      have c3 := (hW.cell (cell_lt z3)).trans z3
      have c4 := (hW.cell (cell_lt z4)).trans z4
      have HD := Lib.hid (show ∀ W, Below b w W → Bss W X m a.b from fun W h => hAd.bs.below (by rw [hb]; exact h))
      have HLn := Lib.hid (show ∀ d ∈ a.b, d.length ≤ 140737488351300 from fun d hd => by have := hAd.far d hd; omega)
      have hle := hAd.le
      have hcap := hAd.cap
      have haz := hAd.at_
      have hkd0 := hAd.kd
      have hfew := hT.bag.few
      have hbl := hT.bag.lt
      have hrl := hT.ref.lt
      have hba : Below wr.heap.size wr (wr.alloc (.cells (aa a (.slice X m cc)) 48)) := (Below.refl _ _).alloc (Nat.le_refl _) _
      have hka : Blk (wr.alloc (.cells (aa a (.slice X m cc)) 48)) wr.heap.size 48 (aa a (.slice X m cc)) := Blk.new wr _ _ rfl
      have hTa := hT.keep hba
      obtain ⟨ga, hga⟩ : ∃ g, wr.heap.size = g := ⟨_, rfl⟩
      have hng : ¬ Sb b U ga := fun e => e.elim (fun e => by omega) (fun e => by have := (hT.Ul _ e).2; omega)
      have hgr : ¬ ga = r := by omega
      have hT1 := hTa.keep (drew_below _)
      have hk1 := hka.keep (drew_below _)
      obtain ⟨wa, hwa⟩ : ∃ wa, wr.alloc (.cells (aa a (.slice X m cc)) 48) = wa := ⟨_, rfl⟩
      rw [hwa] at hTa hT1
      rw [hga, hwa] at hka hk1
      have HGA := Lib.hid hga
      obtain ⟨e0, e1, e2, e3, e4⟩ := k5 (show Blk (wr.alloc (.cells (aa a (.slice X m cc)) 48)) wr.heap.size _ _ by rw [hga, hwa]; exact hka)
      have HWA := Lib.hid hwa
      clear z0 z1 z2 z3 z4 hW hT hba hAd hga hwa
      have hcs : a.kd % 4 = 0 ∨ a.kd % 4 = 1 ∨ a.kd % 4 = 2 ∨ a.kd % 4 = 3 := by omega
      rcases hcs with q | q | q | q
      · have q4 := mod4p q
        go_wp2_with fail
        rw [HWA.out, HGA.out]
        refine wp_region_noPanic ?_
        refine wp_region_held_drew (S := (fun w' => w'.cell? ⟨ga, 0, none⟩ = some (.int .u8 (a.kd : Int)) ∧ w'.cell? ⟨ga, 1, none⟩ = some (.int .i64 a.i) ∧ w'.cell? ⟨ga, 2, none⟩ = some (.int .i64 a.at_) ∧ w'.cell? ⟨ga, 3, none⟩ = some (.int .u8 (a.y.toNat : Int)) ∧ w'.cell? ⟨ga, 4, none⟩ = some (.slice X m cc))) (by kernel_rfl) (k5 hk1) (fun _ => ?_)
        refine wpAnyH_take (i := 0) (oi := _) (v := ?_) rfl (by kernel_rfl) (by kernel_rfl) (by kernel_rfl) (fun _ _ _ h => h) (Or.inl ⟨by kernel_rfl, ?_⟩) (k5 hk1) ?_
        rotate_left
        · (rintro w ⟨a0, a1, a2, a3, a4⟩; go_simp; (first | done | rfl))
        try simp only [Act.put, List.getElem_toArray, List.getElem_cons_zero, List.getElem_cons_succ, List.setIfInBounds_toArray, List.set_cons_zero, List.set_cons_succ]
        refine wpAnyH_take (i := 1) (oi := _) (v := ?_) rfl (by kernel_rfl) (by kernel_rfl) (by kernel_rfl) (fun _ _ _ h => h) (Or.inl ⟨by kernel_rfl, ?_⟩) (k5 hk1) ?_
        rotate_left
        · (rintro w ⟨a0, a1, a2, a3, a4⟩; go_simp; (first | done | rfl))
        try simp only [Act.put, List.getElem_toArray, List.getElem_cons_zero, List.getElem_cons_succ, List.setIfInBounds_toArray, List.set_cons_zero, List.set_cons_succ]
        refine wpAnyH_take (i := 2) (oi := _) (v := ?_) rfl (by kernel_rfl) (by kernel_rfl) (by kernel_rfl) (fun _ _ _ h => h) (Or.inl ⟨by kernel_rfl, ?_⟩) (k5 hk1) ?_
        rotate_left
        · (rintro w ⟨a0, a1, a2, a3, a4⟩; go_simp; (first | done | rfl))
        try simp only [Act.put, List.getElem_toArray, List.getElem_cons_zero, List.getElem_cons_succ, List.setIfInBounds_toArray, List.set_cons_zero, List.set_cons_succ]
        refine wpAnyH_take (i := 4) (oi := _) (v := ?_) rfl (by kernel_rfl) (by kernel_rfl) (by kernel_rfl) (fun _ _ _ h => h) (Or.inl ⟨by kernel_rfl, ?_⟩) (k5 hk1) ?_
        rotate_left
        · (rintro w ⟨a0, a1, a2, a3, a4⟩; go_simp; (first | done | rfl))
        try simp only [Act.put, List.getElem_toArray, List.getElem_cons_zero, List.getElem_cons_succ, List.setIfInBounds_toArray, List.set_cons_zero, List.set_cons_succ]
        refine wpAnyH_take (i := 5) (oi := _) (v := ?_) rfl (by kernel_rfl) (by kernel_rfl) (by kernel_rfl) (fun _ _ _ h => h) (Or.inl ⟨by kernel_rfl, ?_⟩) (k5 hk1) ?_
        rotate_left
        · (rintro w ⟨a0, a1, a2, a3, a4⟩; go_simp; (first | done | rfl))
        try simp only [Act.put, List.getElem_toArray, List.getElem_cons_zero, List.getElem_cons_succ, List.setIfInBounds_toArray, List.set_cons_zero, List.set_cons_succ]
        refine wpAnyH_ready (rs := [3]) (by kernel_rfl) (by simp) (AllReadyH.cons (o := _) rfl (fun K hK => ?_) AllReadyH.nil)
        rw [if_pos (by kernel_rfl)]
        refine wp_fn 18 _ _ rfl _ rfl enters_P1 (bput_ _ b b U l hT1.bag X m cc a.b (fun w1 hf => HD.out w1 (hT1.bagLow hf)) hle hcap HLn.out) ?_
        rintro e w7 ⟨rfl, hG7, hF7⟩
        have hT7 := hT1.bagTo hG7 hF7 (fun k hk => hk)
        have hk7 := blk_fu hk1 hF7 hng
        refine ⟨_, rfl, ?_⟩
        refine hK.out _ _ (k5 hk7) (fun _ => ?_)
        clear hK K
        try simp only [Act.put, List.getElem_toArray, List.getElem_cons_zero, List.getElem_cons_succ, List.setIfInBounds_toArray, List.set_cons_zero, List.set_cons_succ]
        refine wpAnyH_ready (rs := [6]) (by kernel_rfl) (by simp) (AllReadyH.cons (o := _) rfl (fun K hK => ?_) AllReadyH.nil)
        rw [if_pos (by kernel_rfl)]
        refine wp_fn 19 _ _ rfl _ rfl enters_P2 (rput_ _ r V l hT7.ref hT7.Vl hT7.Vr X m cc a.b (fun w1 hf => HD.out w1 (hT7.refLow hf)) hle hcap HLn.out hfew) ?_
        rintro e w8 ⟨rfl, hR8, hF8⟩
        have hT8 := hT7.refTo hR8 hF8 (fun k hk => hk)
        have hk8 := blk_fu hk7 hF8 (fun e => hgr e)
        refine ⟨_, rfl, ?_⟩
        refine hK.out _ _ (k5 hk8) (fun _ => ?_)
        clear hK K
        try simp only [Act.put, List.getElem_toArray, List.getElem_cons_zero, List.getElem_cons_succ, List.setIfInBounds_toArray, List.set_cons_zero, List.set_cons_succ]
        refine wpAnyH_take (i := 7) (oi := _) (v := ?_) rfl (by kernel_rfl) (by kernel_rfl) (by kernel_rfl) (fun _ _ _ h => h) (Or.inl ⟨by kernel_rfl, ?_⟩) (k5 hk8) ?_
        rotate_left
        · (rintro w ⟨a0, a1, a2, a3, a4⟩; go_simp; (first | done | rfl))
        try simp only [Act.put, List.getElem_toArray, List.getElem_cons_zero, List.getElem_cons_succ, List.setIfInBounds_toArray, List.set_cons_zero, List.set_cons_succ]
        refine wpAnyH_take (i := 8) (oi := _) (v := ?_) rfl (by kernel_rfl) (by kernel_rfl) (by kernel_rfl) (fun _ _ _ h => h) (Or.inl ⟨by kernel_rfl, ?_⟩) (k5 hk8) ?_
        rotate_left
        · (rintro w ⟨a0, a1, a2, a3, a4⟩; go_simp; (first | done | rfl))
        try simp only [Act.put, List.getElem_toArray, List.getElem_cons_zero, List.getElem_cons_succ, List.setIfInBounds_toArray, List.set_cons_zero, List.set_cons_succ]
        refine wpAnyH_done (by kernel_rfl) ?_ _
        refine NoPanic.normal ?_
        clear c0 c1 c2 c3 c4 e0 e1 e2 e3 e4
        go_wp2_with fail
        have hT9 := hT8.keep (drew_below w8)
        obtain ⟨A, nn, c9, L9, hL9, hX9⟩ := hT9.ref
        have c9r := hX9.blk.cell (j := 0) (u := .slice A nn c9) rfl
        have hnn : (putS l a.b).length = nn := by rw [hL9, List.length_map]; exact hX9.len.symm
        have hSz := size_ _ b b _ _ hT9.bag
        rw [hnn] at hSz
        clear hL9 hX9 hnn
        refine wp_region_noPanic ?_
        refine wp_region_held_drew (S := (fun w' => w'.cell? ⟨r, 0, none⟩ = some (.slice A nn c9))) (by kernel_rfl) c9r (fun _ => ?_)
        refine wpAnyH_take (i := 0) (oi := _) (v := ?_) rfl (by kernel_rfl) (by kernel_rfl) (by kernel_rfl) (fun _ _ _ h => h) (Or.inl ⟨by kernel_rfl, ?_⟩) c9r ?_
        rotate_left
        · (rintro w a0; go_simp; (first | done | rfl))
        try simp only [Act.put, List.getElem_toArray, List.getElem_cons_zero, List.getElem_cons_succ, List.setIfInBounds_toArray, List.set_cons_zero, List.set_cons_succ]
        refine wpAnyH_take (i := 1) (oi := _) (v := ?_) rfl (by kernel_rfl) (by kernel_rfl) (by kernel_rfl) (fun _ _ _ h => h) (Or.inl ⟨by kernel_rfl, ?_⟩) c9r ?_
        rotate_left
        · (rintro w a0; go_simp; (first | done | rfl))
        try simp only [Act.put, List.getElem_toArray, List.getElem_cons_zero, List.getElem_cons_succ, List.setIfInBounds_toArray, List.set_cons_zero, List.set_cons_succ]
        refine wpAnyH_take (i := 2) (oi := _) (v := ?_) rfl (by kernel_rfl) (by kernel_rfl) (by kernel_rfl) (fun _ _ _ h => h) (Or.inl ⟨by kernel_rfl, ?_⟩) c9r ?_
        rotate_left
        · (rintro w a0; go_simp; (first | done | rfl))
        try simp only [Act.put, List.getElem_toArray, List.getElem_cons_zero, List.getElem_cons_succ, List.setIfInBounds_toArray, List.set_cons_zero, List.set_cons_succ]
        refine wpAnyH_take (i := 3) (oi := _) (v := ?_) rfl (by kernel_rfl) (by kernel_rfl) (by kernel_rfl) (fun _ _ _ h => h) (Or.inl ⟨by kernel_rfl, ?_⟩) c9r ?_
        rotate_left
        · (rintro w a0; go_simp; (first | done | rfl))
        try simp only [Act.put, List.getElem_toArray, List.getElem_cons_zero, List.getElem_cons_succ, List.setIfInBounds_toArray, List.set_cons_zero, List.set_cons_succ]
        refine wpAnyH_take (i := 5) (oi := _) (v := ?_) rfl (by kernel_rfl) (by kernel_rfl) (by kernel_rfl) (fun _ _ _ h => h) (Or.inl ⟨by kernel_rfl, ?_⟩) c9r ?_
        rotate_left
        · (rintro w a0; go_simp; (first | done | rfl))
        try simp only [Act.put, List.getElem_toArray, List.getElem_cons_zero, List.getElem_cons_succ, List.setIfInBounds_toArray, List.set_cons_zero, List.set_cons_succ]
        refine wpAnyH_take (i := 6) (oi := _) (v := ?_) rfl (by kernel_rfl) (by kernel_rfl) (by kernel_rfl) (fun _ _ _ h => h) (Or.inl ⟨by kernel_rfl, ?_⟩) c9r ?_
        rotate_left
        · (rintro w a0; go_simp; (first | done | rfl))
        try simp only [Act.put, List.getElem_toArray, List.getElem_cons_zero, List.getElem_cons_succ, List.setIfInBounds_toArray, List.set_cons_zero, List.set_cons_succ]
        refine wpAnyH_take (i := 7) (oi := _) (v := ?_) rfl (by kernel_rfl) (by kernel_rfl) (by kernel_rfl) (fun _ _ _ h => h) (Or.inl ⟨by kernel_rfl, ?_⟩) c9r ?_
        rotate_left
        · (rintro w a0; go_simp; (first | done | rfl))
        try simp only [Act.put, List.getElem_toArray, List.getElem_cons_zero, List.getElem_cons_succ, List.setIfInBounds_toArray, List.set_cons_zero, List.set_cons_succ]
        refine wpAnyH_ready (rs := [4]) (by kernel_rfl) (by simp) (AllReadyH.cons (o := _) rfl (fun K hK => ?_) AllReadyH.nil)
        rw [if_pos (by kernel_rfl)]
        refine wp_fn 26 _ _ rfl _ rfl enters_Z hSz ?_
        rintro e w9 ⟨rfl, rfl⟩
        refine ⟨_, rfl, ?_⟩
        refine hK.out _ _ c9r (fun _ => ?_)
        clear hK K
        try simp only [Act.put, List.getElem_toArray, List.getElem_cons_zero, List.getElem_cons_succ, List.setIfInBounds_toArray, List.set_cons_zero, List.set_cons_succ]
        refine wpAnyH_take (i := 8) (oi := _) (v := ?_) rfl (by kernel_rfl) (by kernel_rfl) (by kernel_rfl) (fun _ _ _ h => h) (Or.inl ⟨by kernel_rfl, ?_⟩) c9r ?_
        rotate_left
        · (rintro w a0; go_simp; (first | done | rfl))
        try simp only [Act.put, List.getElem_toArray, List.getElem_cons_zero, List.getElem_cons_succ, List.setIfInBounds_toArray, List.set_cons_zero, List.set_cons_succ]
        refine wpAnyH_take (i := 9) (oi := _) (v := ?_) rfl (by kernel_rfl) (by kernel_rfl) (by kernel_rfl) (fun _ _ _ h => h) (Or.inl ⟨by kernel_rfl, ?_⟩) c9r ?_
        rotate_left
        · (rintro w a0; go_simp; (first | done | rfl))
        try simp only [Act.put, List.getElem_toArray, List.getElem_cons_zero, List.getElem_cons_succ, List.setIfInBounds_toArray, List.set_cons_zero, List.set_cons_succ]
        refine wpAnyH_done (by kernel_rfl) ?_ _
        refine NoPanic.normal ?_
        try clear hSz
        try clear hk8
        try clear hk7
        try clear hk1
        try clear hka
        try clear hT8
        try clear hT7
        try clear hT1
        try clear hTa
        try clear hR8
        try clear hF8
        try clear hG7
        try clear hF7
        try clear hng
        try clear hgr
        try clear HGA
        try clear HWA
        try clear HD
        try clear HLn
        try clear q4
        try clear q
        try clear c9r
        go_wp2
        go_roundw
        case rel => exact ⟨j + 1, _, _, _, by omega, by go_num, hT9⟩
        case measure => simp [intOf]; omega
      · have q4 := mod4p q
        go_wp2_with fail
        rw [HWA.out, HGA.out]
        refine (take_ _ b b U l hTa.bag a.i).mono ?_
        rintro e w7 ⟨v7, rfl, hown7, hG7, hU7, hF7⟩
        have hT7 := hTa.bagTo hG7 hF7 (fun k hk => .inl hk.1)
        have hk7 := blk_fu hka hF7 hng
        obtain ⟨e0, e1, e2, e3, e4⟩ := k5 hk7
        obtain ⟨A7, c7, rfl, hc7, hm7, ha7⟩ := own_form hown7
        go_wp2_with fail
        refine (rtake_ _ r V l hT7.ref hT7.Vl hT7.Vr a.i).mono ?_
        rintro e w8 ⟨X8, m8, d8, rfl, hB8, hm8, hd8, hn8, -, hR8, hF8⟩
        have hown8 := own_fu hown7 hF8 (fun g hg e => hTa.Ur (e ▸ hU7 g hg))
        have hT8 := hT7.refTo hR8 hF8 (fun k hk => hk)
        have hbs8 := bs_own hown8
        have hSm := same_ A7 X8 _ c7 m8 d8 _ _ w8 hbs8 hB8 (fun h => (ha7 h).1) hn8
        rw [beq_self_eq_true] at hSm
        obtain ⟨sp, hsp⟩ : ∃ s, (takG l a.i).s = s := ⟨_, rfl⟩
        obtain ⟨te, hte⟩ : ∃ s, takE l a.i = s := ⟨_, rfl⟩
        obtain ⟨xn, hxn⟩ : ∃ s, (takG l a.i).b.length = s := ⟨_, rfl⟩
        rw [hxn] at hSm ⊢
        rw [hsp, hte]
        clear hown7 hown8 hG7 hU7 hF7 hT7 hR8 hF8 hB8 hbs8 hc7 hm7 ha7 hka hTa hk1 hT1
        go_wp2_with fail
        refine hSm.mono ?_
        rintro e w9 ⟨rfl, rfl⟩
        clear c0 c1 c2 c3 c4 e0 e1 e2 e3 e4
        go_wp2_with fail
        have hT9 := hT8.keep (drew_below w8)
        obtain ⟨A, nn, c9, L9, hL9, hX9⟩ := hT9.ref
        have c9r := hX9.blk.cell (j := 0) (u := .slice A nn c9) rfl
        have hnn : (takS l a.i).length = nn := by rw [hL9, List.length_map]; exact hX9.len.symm
        have hSz := size_ _ b b _ _ hT9.bag
        rw [hnn] at hSz
        clear hL9 hX9 hnn
        refine wp_region_noPanic ?_
        refine wp_region_held_drew (S := (fun w' => w'.cell? ⟨r, 0, none⟩ = some (.slice A nn c9))) (by kernel_rfl) c9r (fun _ => ?_)
        refine wpAnyH_take (i := 0) (oi := _) (v := ?_) rfl (by kernel_rfl) (by kernel_rfl) (by kernel_rfl) (fun _ _ _ h => h) (Or.inl ⟨by kernel_rfl, ?_⟩) c9r ?_
        rotate_left
        · (rintro w a0; go_simp; (first | done | rfl))
        try simp only [Act.put, List.getElem_toArray, List.getElem_cons_zero, List.getElem_cons_succ, List.setIfInBounds_toArray, List.set_cons_zero, List.set_cons_succ]
        refine wpAnyH_take (i := 1) (oi := _) (v := ?_) rfl (by kernel_rfl) (by kernel_rfl) (by kernel_rfl) (fun _ _ _ h => h) (Or.inl ⟨by kernel_rfl, ?_⟩) c9r ?_
        rotate_left
        · (rintro w a0; go_simp; (first | done | rfl))
        try simp only [Act.put, List.getElem_toArray, List.getElem_cons_zero, List.getElem_cons_succ, List.setIfInBounds_toArray, List.set_cons_zero, List.set_cons_succ]
        refine wpAnyH_take (i := 2) (oi := _) (v := ?_) rfl (by kernel_rfl) (by kernel_rfl) (by kernel_rfl) (fun _ _ _ h => h) (Or.inl ⟨by kernel_rfl, ?_⟩) c9r ?_
        rotate_left
        · (rintro w a0; go_simp; (first | done | rfl))
        try simp only [Act.put, List.getElem_toArray, List.getElem_cons_zero, List.getElem_cons_succ, List.setIfInBounds_toArray, List.set_cons_zero, List.set_cons_succ]
        refine wpAnyH_take (i := 3) (oi := _) (v := ?_) rfl (by kernel_rfl) (by kernel_rfl) (by kernel_rfl) (fun _ _ _ h => h) (Or.inl ⟨by kernel_rfl, ?_⟩) c9r ?_
        rotate_left
        · (rintro w a0; go_simp; (first | done | rfl))
        try simp only [Act.put, List.getElem_toArray, List.getElem_cons_zero, List.getElem_cons_succ, List.setIfInBounds_toArray, List.set_cons_zero, List.set_cons_succ]
        refine wpAnyH_take (i := 5) (oi := _) (v := ?_) rfl (by kernel_rfl) (by kernel_rfl) (by kernel_rfl) (fun _ _ _ h => h) (Or.inl ⟨by kernel_rfl, ?_⟩) c9r ?_
        rotate_left
        · (rintro w a0; go_simp; (first | done | rfl))
        try simp only [Act.put, List.getElem_toArray, List.getElem_cons_zero, List.getElem_cons_succ, List.setIfInBounds_toArray, List.set_cons_zero, List.set_cons_succ]
        refine wpAnyH_take (i := 6) (oi := _) (v := ?_) rfl (by kernel_rfl) (by kernel_rfl) (by kernel_rfl) (fun _ _ _ h => h) (Or.inl ⟨by kernel_rfl, ?_⟩) c9r ?_
        rotate_left
        · (rintro w a0; go_simp; (first | done | rfl))
        try simp only [Act.put, List.getElem_toArray, List.getElem_cons_zero, List.getElem_cons_succ, List.setIfInBounds_toArray, List.set_cons_zero, List.set_cons_succ]
        refine wpAnyH_take (i := 7) (oi := _) (v := ?_) rfl (by kernel_rfl) (by kernel_rfl) (by kernel_rfl) (fun _ _ _ h => h) (Or.inl ⟨by kernel_rfl, ?_⟩) c9r ?_
        rotate_left
        · (rintro w a0; go_simp; (first | done | rfl))
        try simp only [Act.put, List.getElem_toArray, List.getElem_cons_zero, List.getElem_cons_succ, List.setIfInBounds_toArray, List.set_cons_zero, List.set_cons_succ]
        refine wpAnyH_ready (rs := [4]) (by kernel_rfl) (by simp) (AllReadyH.cons (o := _) rfl (fun K hK => ?_) AllReadyH.nil)
        rw [if_pos (by kernel_rfl)]
        refine wp_fn 26 _ _ rfl _ rfl enters_Z hSz ?_
        rintro e w9 ⟨rfl, rfl⟩
        refine ⟨_, rfl, ?_⟩
        refine hK.out _ _ c9r (fun _ => ?_)
        clear hK K
        try simp only [Act.put, List.getElem_toArray, List.getElem_cons_zero, List.getElem_cons_succ, List.setIfInBounds_toArray, List.set_cons_zero, List.set_cons_succ]
        refine wpAnyH_take (i := 8) (oi := _) (v := ?_) rfl (by kernel_rfl) (by kernel_rfl) (by kernel_rfl) (fun _ _ _ h => h) (Or.inl ⟨by kernel_rfl, ?_⟩) c9r ?_
        rotate_left
        · (rintro w a0; go_simp; (first | done | rfl))
        try simp only [Act.put, List.getElem_toArray, List.getElem_cons_zero, List.getElem_cons_succ, List.setIfInBounds_toArray, List.set_cons_zero, List.set_cons_succ]
        refine wpAnyH_take (i := 9) (oi := _) (v := ?_) rfl (by kernel_rfl) (by kernel_rfl) (by kernel_rfl) (fun _ _ _ h => h) (Or.inl ⟨by kernel_rfl, ?_⟩) c9r ?_
        rotate_left
        · (rintro w a0; go_simp; (first | done | rfl))
        try simp only [Act.put, List.getElem_toArray, List.getElem_cons_zero, List.getElem_cons_succ, List.setIfInBounds_toArray, List.set_cons_zero, List.set_cons_succ]
        refine wpAnyH_done (by kernel_rfl) ?_ _
        refine NoPanic.normal ?_
        try clear hSz
        try clear hk8
        try clear hk7
        try clear hk1
        try clear hka
        try clear hT8
        try clear hT7
        try clear hT1
        try clear hTa
        try clear hR8
        try clear hF8
        try clear hG7
        try clear hF7
        try clear hng
        try clear hgr
        try clear HGA
        try clear HWA
        try clear HD
        try clear HLn
        try clear q4
        try clear q
        try clear c9r
        go_wp2
        go_roundw
        case rel => exact ⟨j + 1, _, _, _, by omega, by go_num, hT9⟩
        case measure => simp [intOf]; omega
      · have q4 := mod4p q
        go_wp2_with fail
        rw [HWA.out, HGA.out]
        refine wp_region_noPanic ?_
        refine wp_region_held_drew (S := (fun w' => w'.cell? ⟨ga, 0, none⟩ = some (.int .u8 (a.kd : Int)) ∧ w'.cell? ⟨ga, 1, none⟩ = some (.int .i64 a.i) ∧ w'.cell? ⟨ga, 2, none⟩ = some (.int .i64 a.at_) ∧ w'.cell? ⟨ga, 3, none⟩ = some (.int .u8 (a.y.toNat : Int)) ∧ w'.cell? ⟨ga, 4, none⟩ = some (.slice X m cc))) (by kernel_rfl) (k5 hk1) (fun _ => ?_)
        refine wpAnyH_take (i := 0) (oi := _) (v := ?_) rfl (by kernel_rfl) (by kernel_rfl) (by kernel_rfl) (fun _ _ _ h => h) (Or.inl ⟨by kernel_rfl, ?_⟩) (k5 hk1) ?_
        rotate_left
        · (rintro w ⟨a0, a1, a2, a3, a4⟩; go_simp; (first | done | rfl))
        try simp only [Act.put, List.getElem_toArray, List.getElem_cons_zero, List.getElem_cons_succ, List.setIfInBounds_toArray, List.set_cons_zero, List.set_cons_succ]
        refine wpAnyH_take (i := 1) (oi := _) (v := ?_) rfl (by kernel_rfl) (by kernel_rfl) (by kernel_rfl) (fun _ _ _ h => h) (Or.inl ⟨by kernel_rfl, ?_⟩) (k5 hk1) ?_
        rotate_left
        · (rintro w ⟨a0, a1, a2, a3, a4⟩; go_simp; (first | done | rfl))
        try simp only [Act.put, List.getElem_toArray, List.getElem_cons_zero, List.getElem_cons_succ, List.setIfInBounds_toArray, List.set_cons_zero, List.set_cons_succ]
        refine wpAnyH_take (i := 2) (oi := _) (v := ?_) rfl (by kernel_rfl) (by kernel_rfl) (by kernel_rfl) (fun _ _ _ h => h) (Or.inl ⟨by kernel_rfl, ?_⟩) (k5 hk1) ?_
        rotate_left
        · (rintro w ⟨a0, a1, a2, a3, a4⟩; go_simp; (first | done | rfl))
        try simp only [Act.put, List.getElem_toArray, List.getElem_cons_zero, List.getElem_cons_succ, List.setIfInBounds_toArray, List.set_cons_zero, List.set_cons_succ]
        refine wpAnyH_take (i := 4) (oi := _) (v := ?_) rfl (by kernel_rfl) (by kernel_rfl) (by kernel_rfl) (fun _ _ _ h => h) (Or.inl ⟨by kernel_rfl, ?_⟩) (k5 hk1) ?_
        rotate_left
        · (rintro w ⟨a0, a1, a2, a3, a4⟩; go_simp; (first | done | rfl))
        try simp only [Act.put, List.getElem_toArray, List.getElem_cons_zero, List.getElem_cons_succ, List.setIfInBounds_toArray, List.set_cons_zero, List.set_cons_succ]
        refine wpAnyH_take (i := 5) (oi := _) (v := ?_) rfl (by kernel_rfl) (by kernel_rfl) (by kernel_rfl) (fun _ _ _ h => h) (Or.inl ⟨by kernel_rfl, ?_⟩) (k5 hk1) ?_
        rotate_left
        · (rintro w ⟨a0, a1, a2, a3, a4⟩; go_simp; (first | done | rfl))
        try simp only [Act.put, List.getElem_toArray, List.getElem_cons_zero, List.getElem_cons_succ, List.setIfInBounds_toArray, List.set_cons_zero, List.set_cons_succ]
        refine wpAnyH_ready (rs := [3]) (by kernel_rfl) (by simp) (AllReadyH.cons (o := _) rfl (fun K hK => ?_) AllReadyH.nil)
        rw [if_pos (by kernel_rfl)]
        refine wp_fn 22 _ _ rfl _ rfl enters_W1 (twice_ _ b b U l hT1.bag a.i) ?_
        rintro e w7 ⟨rfl, hG7, hF7⟩
        have hT7 := hT1.bagTo hG7 hF7 (fun k hk => hk)
        have hk7 := blk_fu hk1 hF7 hng
        refine ⟨_, rfl, ?_⟩
        refine hK.out _ _ (k5 hk7) (fun _ => ?_)
        clear hK K
        try simp only [Act.put, List.getElem_toArray, List.getElem_cons_zero, List.getElem_cons_succ, List.setIfInBounds_toArray, List.set_cons_zero, List.set_cons_succ]
        refine wpAnyH_ready (rs := [6]) (by kernel_rfl) (by simp) (AllReadyH.cons (o := _) rfl (fun K hK => ?_) AllReadyH.nil)
        rw [if_pos (by kernel_rfl)]
        refine wp_fn 23 _ _ rfl _ rfl enters_W2 (rtwice_ _ r V l hT7.ref hT7.Vl hT7.Vr a.i) ?_
        rintro e w8 ⟨rfl, hR8, hF8⟩
        have hT8 := hT7.refTo hR8 hF8 (fun k hk => hk)
        have hk8 := blk_fu hk7 hF8 (fun e => hgr e)
        refine ⟨_, rfl, ?_⟩
        refine hK.out _ _ (k5 hk8) (fun _ => ?_)
        clear hK K
        try simp only [Act.put, List.getElem_toArray, List.getElem_cons_zero, List.getElem_cons_succ, List.setIfInBounds_toArray, List.set_cons_zero, List.set_cons_succ]
        refine wpAnyH_take (i := 7) (oi := _) (v := ?_) rfl (by kernel_rfl) (by kernel_rfl) (by kernel_rfl) (fun _ _ _ h => h) (Or.inl ⟨by kernel_rfl, ?_⟩) (k5 hk8) ?_
        rotate_left
        · (rintro w ⟨a0, a1, a2, a3, a4⟩; go_simp; (first | done | rfl))
        try simp only [Act.put, List.getElem_toArray, List.getElem_cons_zero, List.getElem_cons_succ, List.setIfInBounds_toArray, List.set_cons_zero, List.set_cons_succ]
        refine wpAnyH_take (i := 8) (oi := _) (v := ?_) rfl (by kernel_rfl) (by kernel_rfl) (by kernel_rfl) (fun _ _ _ h => h) (Or.inl ⟨by kernel_rfl, ?_⟩) (k5 hk8) ?_
        rotate_left
        · (rintro w ⟨a0, a1, a2, a3, a4⟩; go_simp; (first | done | rfl))
        try simp only [Act.put, List.getElem_toArray, List.getElem_cons_zero, List.getElem_cons_succ, List.setIfInBounds_toArray, List.set_cons_zero, List.set_cons_succ]
        refine wpAnyH_done (by kernel_rfl) ?_ _
        refine NoPanic.normal ?_
        clear c0 c1 c2 c3 c4 e0 e1 e2 e3 e4
        go_wp2_with fail
        have hT9 := hT8.keep (drew_below w8)
        obtain ⟨A, nn, c9, L9, hL9, hX9⟩ := hT9.ref
        have c9r := hX9.blk.cell (j := 0) (u := .slice A nn c9) rfl
        have hnn : (twiS l a.i).length = nn := by rw [hL9, List.length_map]; exact hX9.len.symm
        have hSz := size_ _ b b _ _ hT9.bag
        rw [hnn] at hSz
        clear hL9 hX9 hnn
        refine wp_region_noPanic ?_
        refine wp_region_held_drew (S := (fun w' => w'.cell? ⟨r, 0, none⟩ = some (.slice A nn c9))) (by kernel_rfl) c9r (fun _ => ?_)
        refine wpAnyH_take (i := 0) (oi := _) (v := ?_) rfl (by kernel_rfl) (by kernel_rfl) (by kernel_rfl) (fun _ _ _ h => h) (Or.inl ⟨by kernel_rfl, ?_⟩) c9r ?_
        rotate_left
        · (rintro w a0; go_simp; (first | done | rfl))
        try simp only [Act.put, List.getElem_toArray, List.getElem_cons_zero, List.getElem_cons_succ, List.setIfInBounds_toArray, List.set_cons_zero, List.set_cons_succ]
        refine wpAnyH_take (i := 1) (oi := _) (v := ?_) rfl (by kernel_rfl) (by kernel_rfl) (by kernel_rfl) (fun _ _ _ h => h) (Or.inl ⟨by kernel_rfl, ?_⟩) c9r ?_
        rotate_left
        · (rintro w a0; go_simp; (first | done | rfl))
        try simp only [Act.put, List.getElem_toArray, List.getElem_cons_zero, List.getElem_cons_succ, List.setIfInBounds_toArray, List.set_cons_zero, List.set_cons_succ]
        refine wpAnyH_take (i := 2) (oi := _) (v := ?_) rfl (by kernel_rfl) (by kernel_rfl) (by kernel_rfl) (fun _ _ _ h => h) (Or.inl ⟨by kernel_rfl, ?_⟩) c9r ?_
        rotate_left
        · (rintro w a0; go_simp; (first | done | rfl))
        try simp only [Act.put, List.getElem_toArray, List.getElem_cons_zero, List.getElem_cons_succ, List.setIfInBounds_toArray, List.set_cons_zero, List.set_cons_succ]
        refine wpAnyH_take (i := 3) (oi := _) (v := ?_) rfl (by kernel_rfl) (by kernel_rfl) (by kernel_rfl) (fun _ _ _ h => h) (Or.inl ⟨by kernel_rfl, ?_⟩) c9r ?_
        rotate_left
        · (rintro w a0; go_simp; (first | done | rfl))
        try simp only [Act.put, List.getElem_toArray, List.getElem_cons_zero, List.getElem_cons_succ, List.setIfInBounds_toArray, List.set_cons_zero, List.set_cons_succ]
        refine wpAnyH_take (i := 5) (oi := _) (v := ?_) rfl (by kernel_rfl) (by kernel_rfl) (by kernel_rfl) (fun _ _ _ h => h) (Or.inl ⟨by kernel_rfl, ?_⟩) c9r ?_
        rotate_left
        · (rintro w a0; go_simp; (first | done | rfl))
        try simp only [Act.put, List.getElem_toArray, List.getElem_cons_zero, List.getElem_cons_succ, List.setIfInBounds_toArray, List.set_cons_zero, List.set_cons_succ]
        refine wpAnyH_take (i := 6) (oi := _) (v := ?_) rfl (by kernel_rfl) (by kernel_rfl) (by kernel_rfl) (fun _ _ _ h => h) (Or.inl ⟨by kernel_rfl, ?_⟩) c9r ?_
        rotate_left
        · (rintro w a0; go_simp; (first | done | rfl))
        try simp only [Act.put, List.getElem_toArray, List.getElem_cons_zero, List.getElem_cons_succ, List.setIfInBounds_toArray, List.set_cons_zero, List.set_cons_succ]
        refine wpAnyH_take (i := 7) (oi := _) (v := ?_) rfl (by kernel_rfl) (by kernel_rfl) (by kernel_rfl) (fun _ _ _ h => h) (Or.inl ⟨by kernel_rfl, ?_⟩) c9r ?_
        rotate_left
        · (rintro w a0; go_simp; (first | done | rfl))
        try simp only [Act.put, List.getElem_toArray, List.getElem_cons_zero, List.getElem_cons_succ, List.setIfInBounds_toArray, List.set_cons_zero, List.set_cons_succ]
        refine wpAnyH_ready (rs := [4]) (by kernel_rfl) (by simp) (AllReadyH.cons (o := _) rfl (fun K hK => ?_) AllReadyH.nil)
        rw [if_pos (by kernel_rfl)]
        refine wp_fn 26 _ _ rfl _ rfl enters_Z hSz ?_
        rintro e w9 ⟨rfl, rfl⟩
        refine ⟨_, rfl, ?_⟩
        refine hK.out _ _ c9r (fun _ => ?_)
        clear hK K
        try simp only [Act.put, List.getElem_toArray, List.getElem_cons_zero, List.getElem_cons_succ, List.setIfInBounds_toArray, List.set_cons_zero, List.set_cons_succ]
        refine wpAnyH_take (i := 8) (oi := _) (v := ?_) rfl (by kernel_rfl) (by kernel_rfl) (by kernel_rfl) (fun _ _ _ h => h) (Or.inl ⟨by kernel_rfl, ?_⟩) c9r ?_
        rotate_left
        · (rintro w a0; go_simp; (first | done | rfl))
        try simp only [Act.put, List.getElem_toArray, List.getElem_cons_zero, List.getElem_cons_succ, List.setIfInBounds_toArray, List.set_cons_zero, List.set_cons_succ]
        refine wpAnyH_take (i := 9) (oi := _) (v := ?_) rfl (by kernel_rfl) (by kernel_rfl) (by kernel_rfl) (fun _ _ _ h => h) (Or.inl ⟨by kernel_rfl, ?_⟩) c9r ?_
        rotate_left
        · (rintro w a0; go_simp; (first | done | rfl))
        try simp only [Act.put, List.getElem_toArray, List.getElem_cons_zero, List.getElem_cons_succ, List.setIfInBounds_toArray, List.set_cons_zero, List.set_cons_succ]
        refine wpAnyH_done (by kernel_rfl) ?_ _
        refine NoPanic.normal ?_
        try clear hSz
        try clear hk8
        try clear hk7
        try clear hk1
        try clear hka
        try clear hT8
        try clear hT7
        try clear hT1
        try clear hTa
        try clear hR8
        try clear hF8
        try clear hG7
        try clear hF7
        try clear hng
        try clear hgr
        try clear HGA
        try clear HWA
        try clear HD
        try clear HLn
        try clear q4
        try clear q
        try clear c9r
        go_wp2
        go_roundw
        case rel => exact ⟨j + 1, _, _, _, by omega, by go_num, hT9⟩
        case measure => simp [intOf]; omega
      · have q4 := mod4p q
        go_wp2_with fail
        rw [HWA.out, HGA.out]
        refine wp_region_noPanic ?_
        refine wp_region_held_drew (S := (fun w' => w'.cell? ⟨ga, 0, none⟩ = some (.int .u8 (a.kd : Int)) ∧ w'.cell? ⟨ga, 1, none⟩ = some (.int .i64 a.i) ∧ w'.cell? ⟨ga, 2, none⟩ = some (.int .i64 a.at_) ∧ w'.cell? ⟨ga, 3, none⟩ = some (.int .u8 (a.y.toNat : Int)) ∧ w'.cell? ⟨ga, 4, none⟩ = some (.slice X m cc))) (by kernel_rfl) (k5 hk1) (fun _ => ?_)
        refine wpAnyH_take (i := 0) (oi := _) (v := ?_) rfl (by kernel_rfl) (by kernel_rfl) (by kernel_rfl) (fun _ _ _ h => h) (Or.inl ⟨by kernel_rfl, ?_⟩) (k5 hk1) ?_
        rotate_left
        · (rintro w ⟨a0, a1, a2, a3, a4⟩; go_simp; (first | done | rfl))
        try simp only [Act.put, List.getElem_toArray, List.getElem_cons_zero, List.getElem_cons_succ, List.setIfInBounds_toArray, List.set_cons_zero, List.set_cons_succ]
        refine wpAnyH_take (i := 1) (oi := _) (v := ?_) rfl (by kernel_rfl) (by kernel_rfl) (by kernel_rfl) (fun _ _ _ h => h) (Or.inl ⟨by kernel_rfl, ?_⟩) (k5 hk1) ?_
        rotate_left
        · (rintro w ⟨a0, a1, a2, a3, a4⟩; go_simp; (first | done | rfl))
        try simp only [Act.put, List.getElem_toArray, List.getElem_cons_zero, List.getElem_cons_succ, List.setIfInBounds_toArray, List.set_cons_zero, List.set_cons_succ]
        refine wpAnyH_take (i := 2) (oi := _) (v := ?_) rfl (by kernel_rfl) (by kernel_rfl) (by kernel_rfl) (fun _ _ _ h => h) (Or.inl ⟨by kernel_rfl, ?_⟩) (k5 hk1) ?_
        rotate_left
        · (rintro w ⟨a0, a1, a2, a3, a4⟩; go_simp; (first | done | rfl))
        try simp only [Act.put, List.getElem_toArray, List.getElem_cons_zero, List.getElem_cons_succ, List.setIfInBounds_toArray, List.set_cons_zero, List.set_cons_succ]
        refine wpAnyH_take (i := 3) (oi := _) (v := ?_) rfl (by kernel_rfl) (by kernel_rfl) (by kernel_rfl) (fun _ _ _ h => h) (Or.inl ⟨by kernel_rfl, ?_⟩) (k5 hk1) ?_
        rotate_left
        · (rintro w ⟨a0, a1, a2, a3, a4⟩; go_simp; (first | done | rfl))
        try simp only [Act.put, List.getElem_toArray, List.getElem_cons_zero, List.getElem_cons_succ, List.setIfInBounds_toArray, List.set_cons_zero, List.set_cons_succ]
        refine wpAnyH_take (i := 4) (oi := _) (v := ?_) rfl (by kernel_rfl) (by kernel_rfl) (by kernel_rfl) (fun _ _ _ h => h) (Or.inl ⟨by kernel_rfl, ?_⟩) (k5 hk1) ?_
        rotate_left
        · (rintro w ⟨a0, a1, a2, a3, a4⟩; go_simp; (first | done | rfl))
        try simp only [Act.put, List.getElem_toArray, List.getElem_cons_zero, List.getElem_cons_succ, List.setIfInBounds_toArray, List.set_cons_zero, List.set_cons_succ]
        refine wpAnyH_take (i := 5) (oi := _) (v := ?_) rfl (by kernel_rfl) (by kernel_rfl) (by kernel_rfl) (fun _ _ _ h => h) (Or.inl ⟨by kernel_rfl, ?_⟩) (k5 hk1) ?_
        rotate_left
        · (rintro w ⟨a0, a1, a2, a3, a4⟩; go_simp; (first | done | rfl))
        try simp only [Act.put, List.getElem_toArray, List.getElem_cons_zero, List.getElem_cons_succ, List.setIfInBounds_toArray, List.set_cons_zero, List.set_cons_succ]
        refine wpAnyH_take (i := 6) (oi := _) (v := ?_) rfl (by kernel_rfl) (by kernel_rfl) (by kernel_rfl) (fun _ _ _ h => h) (Or.inl ⟨by kernel_rfl, ?_⟩) (k5 hk1) ?_
        rotate_left
        · (rintro w ⟨a0, a1, a2, a3, a4⟩; go_simp; (first | done | rfl))
        try simp only [Act.put, List.getElem_toArray, List.getElem_cons_zero, List.getElem_cons_succ, List.setIfInBounds_toArray, List.set_cons_zero, List.set_cons_succ]
        refine wpAnyH_take (i := 8) (oi := _) (v := ?_) rfl (by kernel_rfl) (by kernel_rfl) (by kernel_rfl) (fun _ _ _ h => h) (Or.inl ⟨by kernel_rfl, ?_⟩) (k5 hk1) ?_
        rotate_left
        · (rintro w ⟨a0, a1, a2, a3, a4⟩; go_simp; (first | done | rfl))
        try simp only [Act.put, List.getElem_toArray, List.getElem_cons_zero, List.getElem_cons_succ, List.setIfInBounds_toArray, List.set_cons_zero, List.set_cons_succ]
        refine wpAnyH_take (i := 9) (oi := _) (v := ?_) rfl (by kernel_rfl) (by kernel_rfl) (by kernel_rfl) (fun _ _ _ h => h) (Or.inl ⟨by kernel_rfl, ?_⟩) (k5 hk1) ?_
        rotate_left
        · (rintro w ⟨a0, a1, a2, a3, a4⟩; go_simp; (first | done | rfl))
        try simp only [Act.put, List.getElem_toArray, List.getElem_cons_zero, List.getElem_cons_succ, List.setIfInBounds_toArray, List.set_cons_zero, List.set_cons_succ]
        refine wpAnyH_take (i := 10) (oi := _) (v := ?_) rfl (by kernel_rfl) (by kernel_rfl) (by kernel_rfl) (fun _ _ _ h => h) (Or.inl ⟨by kernel_rfl, ?_⟩) (k5 hk1) ?_
        rotate_left
        · (rintro w ⟨a0, a1, a2, a3, a4⟩; go_simp; (first | done | rfl))
        try simp only [Act.put, List.getElem_toArray, List.getElem_cons_zero, List.getElem_cons_succ, List.setIfInBounds_toArray, List.set_cons_zero, List.set_cons_succ]
        refine wpAnyH_take (i := 11) (oi := _) (v := ?_) rfl (by kernel_rfl) (by kernel_rfl) (by kernel_rfl) (fun _ _ _ h => h) (Or.inl ⟨by kernel_rfl, ?_⟩) (k5 hk1) ?_
        rotate_left
        · (rintro w ⟨a0, a1, a2, a3, a4⟩; go_simp; (first | done | rfl))
        try simp only [Act.put, List.getElem_toArray, List.getElem_cons_zero, List.getElem_cons_succ, List.setIfInBounds_toArray, List.set_cons_zero, List.set_cons_succ]
        refine wpAnyH_take (i := 12) (oi := _) (v := ?_) rfl (by kernel_rfl) (by kernel_rfl) (by kernel_rfl) (fun _ _ _ h => h) (Or.inl ⟨by kernel_rfl, ?_⟩) (k5 hk1) ?_
        rotate_left
        · (rintro w ⟨a0, a1, a2, a3, a4⟩; go_simp; (first | done | rfl))
        try simp only [Act.put, List.getElem_toArray, List.getElem_cons_zero, List.getElem_cons_succ, List.setIfInBounds_toArray, List.set_cons_zero, List.set_cons_succ]
        refine wpAnyH_take (i := 13) (oi := _) (v := ?_) rfl (by kernel_rfl) (by kernel_rfl) (by kernel_rfl) (fun _ _ _ h => h) (Or.inl ⟨by kernel_rfl, ?_⟩) (k5 hk1) ?_
        rotate_left
        · (rintro w ⟨a0, a1, a2, a3, a4⟩; go_simp; (first | done | rfl))
        try simp only [Act.put, List.getElem_toArray, List.getElem_cons_zero, List.getElem_cons_succ, List.setIfInBounds_toArray, List.set_cons_zero, List.set_cons_succ]
        refine wpAnyH_ready (rs := [7]) (by kernel_rfl) (by simp) (AllReadyH.cons (o := _) rfl (fun K hK => ?_) AllReadyH.nil)
        rw [if_pos (by kernel_rfl)]
        refine wp_fn 24 _ _ rfl _ rfl enters_U1 (turn_ _ b b U l hT1.bag a.i a.at_ a.y haz) ?_
        rintro e w7 ⟨rfl, hG7, hF7⟩
        have hT7 := hT1.bagTo hG7 hF7 (fun k hk => .inl hk)
        have hk7 := blk_fu hk1 hF7 hng
        refine ⟨_, rfl, ?_⟩
        refine hK.out _ _ (k5 hk7) (fun _ => ?_)
        clear hK K
        try simp only [Act.put, List.getElem_toArray, List.getElem_cons_zero, List.getElem_cons_succ, List.setIfInBounds_toArray, List.set_cons_zero, List.set_cons_succ]
        refine wpAnyH_ready (rs := [14]) (by kernel_rfl) (by simp) (AllReadyH.cons (o := _) rfl (fun K hK => ?_) AllReadyH.nil)
        rw [if_pos (by kernel_rfl)]
        refine wp_fn 25 _ _ rfl _ rfl enters_U2 (rturn_ _ r V l hT7.ref hT7.Vl hT7.Vr a.i a.at_ a.y haz) ?_
        rintro e w8 ⟨rfl, hR8, hF8⟩
        have hT8 := hT7.refTo hR8 hF8 (fun k hk => hk)
        have hk8 := blk_fu hk7 hF8 (fun e => hgr e)
        refine ⟨_, rfl, ?_⟩
        refine hK.out _ _ (k5 hk8) (fun _ => ?_)
        clear hK K
        try simp only [Act.put, List.getElem_toArray, List.getElem_cons_zero, List.getElem_cons_succ, List.setIfInBounds_toArray, List.set_cons_zero, List.set_cons_succ]
        refine wpAnyH_take (i := 15) (oi := _) (v := ?_) rfl (by kernel_rfl) (by kernel_rfl) (by kernel_rfl) (fun _ _ _ h => h) (Or.inl ⟨by kernel_rfl, ?_⟩) (k5 hk8) ?_
        rotate_left
        · (rintro w ⟨a0, a1, a2, a3, a4⟩; go_simp; (first | done | rfl))
        try simp only [Act.put, List.getElem_toArray, List.getElem_cons_zero, List.getElem_cons_succ, List.setIfInBounds_toArray, List.set_cons_zero, List.set_cons_succ]
        refine wpAnyH_take (i := 16) (oi := _) (v := ?_) rfl (by kernel_rfl) (by kernel_rfl) (by kernel_rfl) (fun _ _ _ h => h) (Or.inl ⟨by kernel_rfl, ?_⟩) (k5 hk8) ?_
        rotate_left
        · (rintro w ⟨a0, a1, a2, a3, a4⟩; go_simp; (first | done | rfl))
        try simp only [Act.put, List.getElem_toArray, List.getElem_cons_zero, List.getElem_cons_succ, List.setIfInBounds_toArray, List.set_cons_zero, List.set_cons_succ]
        refine wpAnyH_done (by kernel_rfl) ?_ _
        refine NoPanic.normal ?_
        clear c0 c1 c2 c3 c4 e0 e1 e2 e3 e4
        go_wp2_with fail
        have hT9 := hT8.keep (drew_below w8)
        obtain ⟨A, nn, c9, L9, hL9, hX9⟩ := hT9.ref
        have c9r := hX9.blk.cell (j := 0) (u := .slice A nn c9) rfl
        have hnn : (turS l a.i a.at_ a.y).length = nn := by rw [hL9, List.length_map]; exact hX9.len.symm
        have hSz := size_ _ b b _ _ hT9.bag
        rw [hnn] at hSz
        clear hL9 hX9 hnn
        refine wp_region_noPanic ?_
        refine wp_region_held_drew (S := (fun w' => w'.cell? ⟨r, 0, none⟩ = some (.slice A nn c9))) (by kernel_rfl) c9r (fun _ => ?_)
        refine wpAnyH_take (i := 0) (oi := _) (v := ?_) rfl (by kernel_rfl) (by kernel_rfl) (by kernel_rfl) (fun _ _ _ h => h) (Or.inl ⟨by kernel_rfl, ?_⟩) c9r ?_
        rotate_left
        · (rintro w a0; go_simp; (first | done | rfl))
        try simp only [Act.put, List.getElem_toArray, List.getElem_cons_zero, List.getElem_cons_succ, List.setIfInBounds_toArray, List.set_cons_zero, List.set_cons_succ]
        refine wpAnyH_take (i := 1) (oi := _) (v := ?_) rfl (by kernel_rfl) (by kernel_rfl) (by kernel_rfl) (fun _ _ _ h => h) (Or.inl ⟨by kernel_rfl, ?_⟩) c9r ?_
        rotate_left
        · (rintro w a0; go_simp; (first | done | rfl))
        try simp only [Act.put, List.getElem_toArray, List.getElem_cons_zero, List.getElem_cons_succ, List.setIfInBounds_toArray, List.set_cons_zero, List.set_cons_succ]
        refine wpAnyH_take (i := 2) (oi := _) (v := ?_) rfl (by kernel_rfl) (by kernel_rfl) (by kernel_rfl) (fun _ _ _ h => h) (Or.inl ⟨by kernel_rfl, ?_⟩) c9r ?_
        rotate_left
        · (rintro w a0; go_simp; (first | done | rfl))
        try simp only [Act.put, List.getElem_toArray, List.getElem_cons_zero, List.getElem_cons_succ, List.setIfInBounds_toArray, List.set_cons_zero, List.set_cons_succ]
        refine wpAnyH_take (i := 3) (oi := _) (v := ?_) rfl (by kernel_rfl) (by kernel_rfl) (by kernel_rfl) (fun _ _ _ h => h) (Or.inl ⟨by kernel_rfl, ?_⟩) c9r ?_
        rotate_left
        · (rintro w a0; go_simp; (first | done | rfl))
        try simp only [Act.put, List.getElem_toArray, List.getElem_cons_zero, List.getElem_cons_succ, List.setIfInBounds_toArray, List.set_cons_zero, List.set_cons_succ]
        refine wpAnyH_take (i := 5) (oi := _) (v := ?_) rfl (by kernel_rfl) (by kernel_rfl) (by kernel_rfl) (fun _ _ _ h => h) (Or.inl ⟨by kernel_rfl, ?_⟩) c9r ?_
        rotate_left
        · (rintro w a0; go_simp; (first | done | rfl))
        try simp only [Act.put, List.getElem_toArray, List.getElem_cons_zero, List.getElem_cons_succ, List.setIfInBounds_toArray, List.set_cons_zero, List.set_cons_succ]
        refine wpAnyH_take (i := 6) (oi := _) (v := ?_) rfl (by kernel_rfl) (by kernel_rfl) (by kernel_rfl) (fun _ _ _ h => h) (Or.inl ⟨by kernel_rfl, ?_⟩) c9r ?_
        rotate_left
        · (rintro w a0; go_simp; (first | done | rfl))
        try simp only [Act.put, List.getElem_toArray, List.getElem_cons_zero, List.getElem_cons_succ, List.setIfInBounds_toArray, List.set_cons_zero, List.set_cons_succ]
        refine wpAnyH_take (i := 7) (oi := _) (v := ?_) rfl (by kernel_rfl) (by kernel_rfl) (by kernel_rfl) (fun _ _ _ h => h) (Or.inl ⟨by kernel_rfl, ?_⟩) c9r ?_
        rotate_left
        · (rintro w a0; go_simp; (first | done | rfl))
        try simp only [Act.put, List.getElem_toArray, List.getElem_cons_zero, List.getElem_cons_succ, List.setIfInBounds_toArray, List.set_cons_zero, List.set_cons_succ]
        refine wpAnyH_ready (rs := [4]) (by kernel_rfl) (by simp) (AllReadyH.cons (o := _) rfl (fun K hK => ?_) AllReadyH.nil)
        rw [if_pos (by kernel_rfl)]
        refine wp_fn 26 _ _ rfl _ rfl enters_Z hSz ?_
        rintro e w9 ⟨rfl, rfl⟩
        refine ⟨_, rfl, ?_⟩
        refine hK.out _ _ c9r (fun _ => ?_)
        clear hK K
        try simp only [Act.put, List.getElem_toArray, List.getElem_cons_zero, List.getElem_cons_succ, List.setIfInBounds_toArray, List.set_cons_zero, List.set_cons_succ]
        refine wpAnyH_take (i := 8) (oi := _) (v := ?_) rfl (by kernel_rfl) (by kernel_rfl) (by kernel_rfl) (fun _ _ _ h => h) (Or.inl ⟨by kernel_rfl, ?_⟩) c9r ?_
        rotate_left
        · (rintro w a0; go_simp; (first | done | rfl))
        try simp only [Act.put, List.getElem_toArray, List.getElem_cons_zero, List.getElem_cons_succ, List.setIfInBounds_toArray, List.set_cons_zero, List.set_cons_succ]
        refine wpAnyH_take (i := 9) (oi := _) (v := ?_) rfl (by kernel_rfl) (by kernel_rfl) (by kernel_rfl) (fun _ _ _ h => h) (Or.inl ⟨by kernel_rfl, ?_⟩) c9r ?_
        rotate_left
        · (rintro w a0; go_simp; (first | done | rfl))
        try simp only [Act.put, List.getElem_toArray, List.getElem_cons_zero, List.getElem_cons_succ, List.setIfInBounds_toArray, List.set_cons_zero, List.set_cons_succ]
        refine wpAnyH_done (by kernel_rfl) ?_ _
        refine NoPanic.normal ?_
        try clear hSz
        try clear hk8
        try clear hk7
        try clear hk1
        try clear hka
        try clear hT8
        try clear hT7
        try clear hT1
        try clear hTa
        try clear hR8
        try clear hF8
        try clear hG7
        try clear hF7
        try clear hng
        try clear hgr
        try clear HGA
        try clear HWA
        try clear HD
        try clear HLn
        try clear q4
        try clear q
        try clear c9r
        go_wp2
        go_roundw
        case rel => exact ⟨j + 1, _, _, _, by omega, by go_num, hT9⟩
        case measure => simp [intOf]; omega
    · go_wp2
      go_ret
      exact ⟨rfl, by rw [hb]; exact hT.low⟩
end
end Net
open Net

set_option maxRecDepth 100000 in
theorem netPlays_lifted (os : Os) (started : os.Started) (H : Type) (enc : TypeId × Value → H) :
    ReturnsInHanded {} Try.checked os 6 .any (Rows.netPlaysSpec.pre6 enc Try.prog Try.f6 Rows.netPlaysRow.domain false) (Rows.netPlaysSpec.post enc Try.prog Try.f6 false true false false) := by
  refine law_lifted (C := Try.checked) (tb := 4) own_ started (by kernel_rfl) Try.func6
    (ChangeSpec.witness6 (enc := enc) (C := Try.checked) false ⟨#[], #[.slice none 0 0], []⟩ 8 (by kernel_rfl) (by kernel_rfl) (by kernel_rfl) (by kernel_rfl))
    rfl rfl Try.underlying4 laidOut_ (by kernel_rfl) (fun ds h => by match ds, h with | [_], _ => rfl) ?_
  intro W base args ds p hval0 hA0 _ hsz0
  have hval : ∀ (j : Nat) t v, Try.f6.params[j]? = some t → args[j]? = some v → Value.okWide Try.prog W .any base t v := hval0
  have hA : DataW.TrodAll enc Try.prog W 0 (fun _ => true) true Try.f6.params.toList args.toList ds p := hA0
  have hsz : (DataW.weightsEach Try.prog Try.f6.params.toList ds).all (· ≤ reachBytes) = true := hsz0
  clear hval0 hA0 hsz0
  rw [Try.params6] at hA hval hsz
  obtain ⟨v0, d0, rfl, rfl, h0⟩ := trodAll_one hA
  obtain ⟨A0, n0, c0, xs0, rfl, r0, b0⟩ := arg_slice ops_acs Try.underlying40 (hval 0 _ v0 rfl rfl) h0 (weight_at hsz (j := 0) rfl rfl)
  exact by
    obtain ⟨ha, hac, hab⟩ := acs_of r0
    exact plays_walk W A0 n0 c0 _ ha hac hab

/-- NetPlays, for every input: the statement as it was given. -/
theorem netPlays_holds : Rows.NetPlaysSaid :=
  OpenClaim.holds_of_wide 6 Try.f6 rfl rfl rfl rfl rfl rfl rfl ⟨rfl, rfl, rfl, rfl, rfl⟩ rfl rfl rfl rfl rfl (by kernel_rfl) Try.func6 (by kernel_rfl)
    (of_decide_eq_true (by kernel_rfl)) (by unfold Func.isWrapper; first | (rw [if_pos (by decide +kernel)]; kernel_rfl) | (rw [if_neg (by decide +kernel)]; exact ⟨rfl, rfl⟩))
    (fun os started H enc _ => netPlays_lifted os started H enc)
end Go.Proofs.Ytallbhdfbkkjkaa

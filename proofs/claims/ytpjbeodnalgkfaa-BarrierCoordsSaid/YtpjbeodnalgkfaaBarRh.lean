/- Layer 17: the document's ends -/
import Derived.Test.YtpjbeodnalgkfaaBarRg
set_option linter.all false
namespace Go.Proofs.Ytpjbeodnalgkfaa
open Go.RowKit
namespace Bar
theorem undrew17 {w w' : World} {r : Option Nat} (h : w.drew.grownBy w' r) : w.grownBy w' r := ⟨h.os, h.tape, h.output, h.size, h.block⟩
theorem is_keep {w w' : World} {A : Option Addr} {n : Nat} {l : List Int} (h : Is w A n l) (hg : w.grownBy w' none) : Is w' A n l := (h.below (grown_none_below hg))
section
variable {w W : World} {b g n1 c1 n2 c2 m cp : Nat} {c : Co} {U : Nat → Prop} {A1 A2 A : Option Addr}
theorem RcX.put3 (h : RcX w b U c g A1 n1 c1 A2 n2 c2) (hg : w.grownBy W none) (ho : W.ownsRow w.heap.size 3 1 (.slice A m cp) m (ivs (c.cm ++ [c.id]))) (hc : m ≤ cp) (hm : cp ≤ maxLen) (hn : A = none → m = 0) :
    Rc ((W.setCell ⟨b, 3, none⟩ (.slice A m cp)).setCell ⟨b, 2, none⟩ (.int .i64 0)) b (fun k => U k ∨ w.heap.size ≤ k) { c with cm := c.cm ++ [c.id], id := 0 } ∧ Fu (fun k => k = b) w ((W.setCell ⟨b, 3, none⟩ (.slice A m cp)).setCell ⟨b, 2, none⟩ (.int .i64 0)) := by
  have hb := h.blk.lt
  have hF : Fu (fun k => k = b) w W := Fu.ofGrown hg (fun k e => by cases e)
  have hF2 : Fu (fun k => k = b) W ((W.setCell ⟨b, 3, none⟩ (.slice A m cp)).setCell ⟨b, 2, none⟩ (.int .i64 0)) := fu_set (S := fun k => k = b) (fu_set (S := fun k => k = b) (Fu.refl _ _) _ _ _ rfl) _ _ _ rfl
  have hF3 := hF.then hF2 (fun j q => .inl q)
  have hs : ∀ k, U k → ¬ k = b := fun k hk e => h.out (e ▸ hk)
  have hk : Blk W b 43 (rca g c.ans.length c.ph c.id (.slice A1 n1 c1) (.slice A2 n2 c2)) := h.blk.grown hg (fun e => by cases e)
  refine ⟨⟨g, A, m, cp, A2, n2, c2, ?_, blk_fu h.ans hF3 (hs g h.gU), ?_, (h.ab.fu hF3 hs).sub (fun k hk _ => .inl hk), hn, h.nil2, .inl h.gU, fun a e q => ?_, h.ap2, fun q => q.elim h.out (by omega)⟩, hF3⟩
  · have := (hk.setCell 3 (.slice A m cp)).setCell 2 (.int .i64 0)
    simpa using this
  · exact ((Op.own (U := fun k => w.heap.size ≤ k) ho hc hm (fun k hk => hk)).fu hF2 (fun k hk e => by omega)).sub (fun k hk _ => .inr hk)
  · have h1 := (ho.lt a.block (by rw [e]; rfl)).1
    have h2 := h.ans.lt
    omega
theorem RcX.put4 (h : RcX w b U c g A1 n1 c1 A2 n2 c2) (hg : w.grownBy W none) (ho : W.ownsRow w.heap.size 3 1 (.slice A m cp) m (ivs (c.ab ++ [c.id]))) (hc : m ≤ cp) (hm : cp ≤ maxLen) (hn : A = none → m = 0) :
    Rc ((W.setCell ⟨b, 4, none⟩ (.slice A m cp)).setCell ⟨b, 2, none⟩ (.int .i64 0)) b (fun k => U k ∨ w.heap.size ≤ k) { c with ab := c.ab ++ [c.id], id := 0 } ∧ Fu (fun k => k = b) w ((W.setCell ⟨b, 4, none⟩ (.slice A m cp)).setCell ⟨b, 2, none⟩ (.int .i64 0)) := by
  have hb := h.blk.lt
  have hF : Fu (fun k => k = b) w W := Fu.ofGrown hg (fun k e => by cases e)
  have hF2 : Fu (fun k => k = b) W ((W.setCell ⟨b, 4, none⟩ (.slice A m cp)).setCell ⟨b, 2, none⟩ (.int .i64 0)) := fu_set (S := fun k => k = b) (fu_set (S := fun k => k = b) (Fu.refl _ _) _ _ _ rfl) _ _ _ rfl
  have hF3 := hF.then hF2 (fun j q => .inl q)
  have hs : ∀ k, U k → ¬ k = b := fun k hk e => h.out (e ▸ hk)
  have hk : Blk W b 43 (rca g c.ans.length c.ph c.id (.slice A1 n1 c1) (.slice A2 n2 c2)) := h.blk.grown hg (fun e => by cases e)
  refine ⟨⟨g, A1, n1, c1, A, m, cp, ?_, blk_fu h.ans hF3 (hs g h.gU), (h.cm.fu hF3 hs).sub (fun k hk _ => .inl hk), ?_, h.nil1, hn, .inl h.gU, h.ap1, fun a e q => ?_, fun q => q.elim h.out (by omega)⟩, hF3⟩
  · have := (hk.setCell 4 (.slice A m cp)).setCell 2 (.int .i64 0)
    simpa using this
  · exact ((Op.own (U := fun k => w.heap.size ≤ k) ho hc hm (fun k hk => hk)).fu hF2 (fun k hk e => by omega)).sub (fun k hk _ => .inr hk)
  · have h1 := (ho.lt a.block (by rw [e]; rfl)).1
    have h2 := h.ans.lt
    omega
end
section
variable (w : World)
set_option maxRecDepth 100000 in
set_option maxHeartbeats 4000000 in
theorem rends_ (b : Nat) (U : Nat → Prop) (c : Co) (h : Rc w b U c) (hF : Few c) : Calls Try.prog 49 #[.pointer (some ⟨b, 0, none⟩)] w fun r w' => r = .returned (.tuple #[]) ∧ RcA w w' b U (endsC c) := by
  obtain ⟨i0, hi0, hz0, hz1, hz2⟩ := int_info
  have Hz := Lib.hid hz2
  clear hz2
  have hn16 := hF.2
  have hbl := h.lt
  obtain ⟨g, A1, n1, c1, A2, n2, c2, h⟩ := h
  obtain ⟨d0, d1, d2, d3, d4⟩ := h.cells
  have H := Lib.hid h
  clear h d0
  by_cases p3 : c.ph = 3
  · have t3 : (c.ph == 3) = true := by simpa using p3
    have he : endsC c = turnC { c with cm := c.cm ++ [c.id], id := 0 } 0 := by unfold endsC; rw [if_pos p3]
    clear p3
    obtain ⟨l, hl⟩ : ∃ l, c.cm = l := ⟨_, rfl⟩
    obtain ⟨x, hx⟩ : ∃ x, c.id = x := ⟨_, rfl⟩
    have HPut := fun W A m cp => H.out.put3 (W := W) (A := A) (m := m) (cp := cp)
    have hIs := H.out.cm.is
    have hnil := H.out.nil1
    rw [hl] at hIs
    rw [hl, hx] at HPut
    rw [hx] at d2
    have hn9 : n1 ≤ 2000 := by have := H.out.cm.is.len; have := hF.1; omega
    rw [hl, hx] at he
    have HE := Lib.hid he
    have HP := Lib.hid HPut
    clear HPut hl hx he
    have hgB : w.grownBy (w.drew.alloc (.cells #[.int .i64 x] 3)) none := undrew17 (World.grownBy_alloc w.drew (.cells #[.int .i64 x] 3) none)
    have hIs2 := is_keep hIs hgB
    have e2 : (w.drew.alloc (.cells #[.int .i64 x] 3)).cell? ⟨b, 3, none⟩ = some (.slice A1 n1 c1) := hgB.cell d3 (fun e => by cases e)
    have e3 : (w.alloc (.cells #[.int .i64 x] 3)).cell? ⟨b, 3, none⟩ = some (.slice A1 n1 c1) := e2
    have hsB : w.heap.size ≤ (w.drew.alloc (.cells #[.int .i64 x] 3)).heap.size := hgB.size
    go_enter Try.func49, Try.ntmps49
    go_wp2_with fail
    go_region_law (first
      | (refine step_app _ rfl (.const (.slice none 0 0)) (.tmp 11) _ rfl w.heap.size 3 i0 _ 1 8 Try.underlying25 hi0 hz0 hz1 Hz.out rfl (by omega) (.slice none 0 0) 0 [] rfl (own_nil _ _ _ _) A1 n1 c1 (ivs l) rfl hnil (show Rd w.drew A1 1 n1 (ivs l) from hIs) (ivs_one _) (by unfold maxLen; omega) (by omega) (Nat.le_refl _) ?_
         intro vA wA hownA hgA hatA
         obtain ⟨AA, cA, rfl, hcA, hmA, haA⟩ := own_form hownA
         simp only [Nat.zero_add, List.nil_append] at hownA hcA haA ⊢
         have hgA' : w.grownBy wA none := undrew17 hgA
         have hsA : w.heap.size ≤ wA.heap.size := hgA'.size
         have dA : wA.cell? ⟨b, 2, none⟩ = some (.int .i64 x) := hgA'.cell d2 (fun e => by cases e)
         have hgA4 : w.grownBy (wA.alloc (.cells #[.int .i64 x] 3)) none := hgA'.trans (World.grownBy_alloc wA (.cells #[.int .i64 x] 3) none)
         have hown4 : (wA.alloc (.cells #[.int .i64 x] 3)).ownsRow w.heap.size 3 1 (.slice AA n1 cA) n1 (ivs l) := own_keep hownA ((Below.refl _ _).alloc (Nat.le_refl _) _)
         have hrd4 : Rd (wA.alloc (.cells #[.int .i64 x] 3)) (some ⟨wA.heap.size, 0, none⟩) 1 1 (ivs [x]) := Is.new wA [x] 3 rfl rfl rfl
         have hb4 : w.heap.size ≤ (wA.alloc (.cells #[.int .i64 x] 3)).heap.size := hgA4.size)
      | (refine step_app _ rfl (.const (.slice none 0 0)) (.tmp 11) _ rfl w.heap.size 3 i0 _ 1 8 Try.underlying25 hi0 hz0 hz1 Hz.out rfl (by omega) (.slice none 0 0) 0 [] rfl (own_nil _ _ _ _) A1 n1 c1 (ivs l) rfl hnil hIs2 (ivs_one _) (by unfold maxLen; omega) (by omega) hsB ?_
         intro vA wA hownA hgA hatA
         obtain ⟨AA, cA, rfl, hcA, hmA, haA⟩ := own_form hownA
         simp only [Nat.zero_add, List.nil_append] at hownA hcA haA ⊢
         have hgA4 : w.grownBy wA none := hgB.trans hgA
         have hown4 : wA.ownsRow w.heap.size 3 1 (.slice AA n1 cA) n1 (ivs l) := hownA
         have hrd4 : Rd wA (some ⟨w.heap.size, 0, none⟩) 1 1 (ivs [x]) := is_keep (Is.new w.drew [x] 3 rfl rfl rfl) hgA
         have hb4 : w.heap.size ≤ wA.heap.size := hgA4.size)
      | (refine step_app _ rfl (.tmp 12) (.tmp 17) _ rfl w.heap.size 3 i0 _ 1 8 Try.underlying25 hi0 hz0 hz1 Hz.out rfl (by omega) (.slice AA n1 cA) n1 (ivs l) rfl hown4 _ 1 1 (ivs [x]) rfl (fun h => by cases h) hrd4 (ivs_one _) (by unfold maxLen; omega) (by omega) hb4 ?_
         intro vD wD hownD hgD hatD
         rw [← ivs_app] at hownD
         obtain ⟨AD, cD, rfl, hcD, hmD, haD⟩ := own_form hownD
         have hgD' : w.grownBy wD none := grown_step hgA4 hgD (fun j e => .inl (hown4.lt j e).1)
         have fD := (H.out.blk.grown hgD' (fun e => by cases e)).free 3
         have fD2 := (H.out.blk.grown hgD' (fun e => by cases e)).free 2
         have qD : wD.cell? ⟨b, 3, none⟩ = some (.slice A1 n1 c1) := hgD'.cell d3 (fun e => by cases e)
         have qD2 : wD.cell? ⟨b, 2, none⟩ = some (.int .i64 x) := hgD'.cell d2 (fun e => by cases e)))
    all_goals (
      go_wp2_with fail
      obtain ⟨hR, hF3⟩ := HP.out _ _ _ _ hgD' hownD hcD hmD (fun e => (haD e).1)
      refine (rturn_ _ b _ _ hR hn16 0).mono ?_
      rintro r w3 ⟨rfl, hT⟩
      go_wp2
      go_end0
      rw [HE.out]
      exact ⟨rfl, RcA.then ⟨hR, hF3.mono (fun k e => .inl e)⟩ hT H.out.out hbl⟩)
  · have t3 : (c.ph == 3) = false := by simpa using p3
    have he : endsC c = turnC { c with ab := c.ab ++ [c.id], id := 0 } 0 := by unfold endsC; rw [if_neg p3]
    clear p3
    obtain ⟨l, hl⟩ : ∃ l, c.ab = l := ⟨_, rfl⟩
    obtain ⟨x, hx⟩ : ∃ x, c.id = x := ⟨_, rfl⟩
    have HPut := fun W A m cp => H.out.put4 (W := W) (A := A) (m := m) (cp := cp)
    have hIs := H.out.ab.is
    have hnil := H.out.nil2
    rw [hl] at hIs
    rw [hl, hx] at HPut
    rw [hx] at d2
    have hn9 : n2 ≤ 2000 := by have := H.out.ab.is.len; have := hF.1; omega
    rw [hl, hx] at he
    have HE := Lib.hid he
    have HP := Lib.hid HPut
    clear HPut hl hx he
    have hgB : w.grownBy (w.drew.alloc (.cells #[.int .i64 x] 3)) none := undrew17 (World.grownBy_alloc w.drew (.cells #[.int .i64 x] 3) none)
    have hIs2 := is_keep hIs hgB
    have e2 : (w.drew.alloc (.cells #[.int .i64 x] 3)).cell? ⟨b, 4, none⟩ = some (.slice A2 n2 c2) := hgB.cell d4 (fun e => by cases e)
    have e3 : (w.alloc (.cells #[.int .i64 x] 3)).cell? ⟨b, 4, none⟩ = some (.slice A2 n2 c2) := e2
    have hsB : w.heap.size ≤ (w.drew.alloc (.cells #[.int .i64 x] 3)).heap.size := hgB.size
    go_enter Try.func49, Try.ntmps49
    go_wp2_with fail
    go_region_law (first
      | (refine step_app _ rfl (.const (.slice none 0 0)) (.tmp 25) _ rfl w.heap.size 3 i0 _ 1 8 Try.underlying25 hi0 hz0 hz1 Hz.out rfl (by omega) (.slice none 0 0) 0 [] rfl (own_nil _ _ _ _) A2 n2 c2 (ivs l) rfl hnil (show Rd w.drew A2 1 n2 (ivs l) from hIs) (ivs_one _) (by unfold maxLen; omega) (by omega) (Nat.le_refl _) ?_
         intro vA wA hownA hgA hatA
         obtain ⟨AA, cA, rfl, hcA, hmA, haA⟩ := own_form hownA
         simp only [Nat.zero_add, List.nil_append] at hownA hcA haA ⊢
         have hgA' : w.grownBy wA none := undrew17 hgA
         have hsA : w.heap.size ≤ wA.heap.size := hgA'.size
         have dA : wA.cell? ⟨b, 2, none⟩ = some (.int .i64 x) := hgA'.cell d2 (fun e => by cases e)
         have hgA4 : w.grownBy (wA.alloc (.cells #[.int .i64 x] 3)) none := hgA'.trans (World.grownBy_alloc wA (.cells #[.int .i64 x] 3) none)
         have hown4 : (wA.alloc (.cells #[.int .i64 x] 3)).ownsRow w.heap.size 3 1 (.slice AA n2 cA) n2 (ivs l) := own_keep hownA ((Below.refl _ _).alloc (Nat.le_refl _) _)
         have hrd4 : Rd (wA.alloc (.cells #[.int .i64 x] 3)) (some ⟨wA.heap.size, 0, none⟩) 1 1 (ivs [x]) := Is.new wA [x] 3 rfl rfl rfl
         have hb4 : w.heap.size ≤ (wA.alloc (.cells #[.int .i64 x] 3)).heap.size := hgA4.size)
      | (refine step_app _ rfl (.const (.slice none 0 0)) (.tmp 25) _ rfl w.heap.size 3 i0 _ 1 8 Try.underlying25 hi0 hz0 hz1 Hz.out rfl (by omega) (.slice none 0 0) 0 [] rfl (own_nil _ _ _ _) A2 n2 c2 (ivs l) rfl hnil hIs2 (ivs_one _) (by unfold maxLen; omega) (by omega) hsB ?_
         intro vA wA hownA hgA hatA
         obtain ⟨AA, cA, rfl, hcA, hmA, haA⟩ := own_form hownA
         simp only [Nat.zero_add, List.nil_append] at hownA hcA haA ⊢
         have hgA4 : w.grownBy wA none := hgB.trans hgA
         have hown4 : wA.ownsRow w.heap.size 3 1 (.slice AA n2 cA) n2 (ivs l) := hownA
         have hrd4 : Rd wA (some ⟨w.heap.size, 0, none⟩) 1 1 (ivs [x]) := is_keep (Is.new w.drew [x] 3 rfl rfl rfl) hgA
         have hb4 : w.heap.size ≤ wA.heap.size := hgA4.size)
      | (refine step_app _ rfl (.tmp 26) (.tmp 31) _ rfl w.heap.size 3 i0 _ 1 8 Try.underlying25 hi0 hz0 hz1 Hz.out rfl (by omega) (.slice AA n2 cA) n2 (ivs l) rfl hown4 _ 1 1 (ivs [x]) rfl (fun h => by cases h) hrd4 (ivs_one _) (by unfold maxLen; omega) (by omega) hb4 ?_
         intro vD wD hownD hgD hatD
         rw [← ivs_app] at hownD
         obtain ⟨AD, cD, rfl, hcD, hmD, haD⟩ := own_form hownD
         have hgD' : w.grownBy wD none := grown_step hgA4 hgD (fun j e => .inl (hown4.lt j e).1)
         have fD := (H.out.blk.grown hgD' (fun e => by cases e)).free 4
         have fD2 := (H.out.blk.grown hgD' (fun e => by cases e)).free 2
         have qD : wD.cell? ⟨b, 4, none⟩ = some (.slice A2 n2 c2) := hgD'.cell d4 (fun e => by cases e)
         have qD2 : wD.cell? ⟨b, 2, none⟩ = some (.int .i64 x) := hgD'.cell d2 (fun e => by cases e)))
    all_goals (
      go_wp2_with fail
      obtain ⟨hR, hF3⟩ := HP.out _ _ _ _ hgD' hownD hcD hmD (fun e => (haD e).1)
      refine (rturn_ _ b _ _ hR hn16 0).mono ?_
      rintro r w3 ⟨rfl, hT⟩
      go_wp2
      go_end0
      rw [HE.out]
      exact ⟨rfl, RcA.then ⟨hR, hF3.mono (fun k e => .inl e)⟩ hT H.out.out hbl⟩)
end
end Bar
end Go.Proofs.Ytpjbeodnalgkfaa

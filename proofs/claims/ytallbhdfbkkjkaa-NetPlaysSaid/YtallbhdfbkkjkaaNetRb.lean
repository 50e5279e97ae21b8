/- Layer 15: the document's bag: Put. -/
import Derived.Test.YtallbhdfbkkjkaaNetRa
set_option linter.all false
namespace Go.Proofs.Ytallbhdfbkkjkaa
open Go.RowKit
namespace Net
theorem rd_keep {w w' : World} {A : Option Addr} {sz n : Nat} {xs : List Value} (h : Rd w A sz n xs) (hg : w.grownBy w' none) : Rd w' A sz n xs := h.grown hg (fun a ha q => by cases q)
theorem undrew {w w' : World} {row : Option Nat} (h : w.drew.grownBy w' row) : w.grownBy w' row := ⟨h.os, h.tape, h.output, h.size, h.block⟩
section
variable (w : World)
set_option maxRecDepth 100000 in
set_option maxHeartbeats 8000000 in
theorem rput_ (r : Nat) (V : Nat → Prop) (l : List Gr) (h : Rg w r V l) (hV : ∀ k, V k → k < w.heap.size) (hVr : ¬ V r) (G : Option Addr) (n c : Nat) (gs : List (List UInt8))
    (hgs : ∀ w1, Fu (fun k => k = r) w w1 → Bss w1 G n gs) (hnc : n ≤ c) (hc : c ≤ 9223372036854775807) (hlen : ∀ d ∈ gs, d.length ≤ 140737488351300) (hl256 : l.length ≤ 256) :
    Calls Try.prog 19 #[.pointer (some ⟨r, 0, none⟩), .slice G n c] w fun e w' => e = .returned (.int .i64 (putN l gs : Nat)) ∧ Rg w' r (fun k => V k ∨ w.heap.size ≤ k) (putS l gs) ∧ Fu (fun k => k = r) w w' := by
  obtain ⟨i0, hi0', hz0, hz1, hz2⟩ := rgram_info
  have Hz := Lib.hid hz2
  obtain ⟨i1, hi1', hy0, hy1, hy2⟩ := info_parts info_u8
  have Hy := Lib.hid hy2
  clear hz2 hy2
  have Hn := Lib.hid (hgs w (Fu.refl _ _)).1
  have hrl := h.lt
  obtain ⟨k, hk⟩ : ∃ k, l.length = k := ⟨_, rfl⟩
  have Hk := Lib.hid hk
  rw [hk] at hl256
  clear hk
  go_enter Try.func19, Try.ntmps19
  go_wp2_with fail
  go_loopw [5, 6] (fun nv iv wr => ∃ q : Nat, q ≤ n ∧ k + q ≤ 256 ∧ nv = .int .i64 (q : Int) ∧ iv = .int .i64 (q : Int) ∧ Rg wr r (fun k => V k ∨ w.heap.size ≤ k) (l ++ (gs.take q).map (fun d => (⟨d, false⟩ : Gr))) ∧ Fu (fun k => k = r) w wr) (fun _ iv _ => n - (intOf iv).toNat)
  case atStart => exact ⟨0, Nat.zero_le _, by omega, rfl, rfl, by simpa using h.sub (fun k hk _ => Or.inl hk), Fu.refl _ _⟩
  case round =>
    obtain ⟨q, hq, hq256, rfl, rfl, hR, hF⟩ := hrel
    obtain ⟨A, m, cc, L, hL, hX⟩ := hR
    have HL := Lib.hid hL
    have hmk : m = k + q := by
      have h1 := congrArg List.length HL.out
      rw [List.length_append, List.length_map, List.length_map, List.length_take, ← hX.len, Hk.out] at h1
      have := Hn.out
      omega
    have Hmk := Lib.hid hmk
    have c0 := hX.blk.cell (j := 0) (u := .slice A m cc) rfl
    have cf := hX.blk.free 0
    have hm256 := hX.few
    have hq0 : (0 : Int) ≤ (q : Int) := by omega
    clear hL hmk
    by_cases h1 : q < n
    · have hqi : (q : Int) < (n : Int) := by omega
      by_cases h2 : m < 256
      · have hmi : (m : Int) < 256 := by omega
        have hsz := hF.size
        have hG := hgs wr hF
        have hil2 : q < gs.length := by have := Hn.out; omega
        obtain ⟨ba, oa, X, nx, cx, rfl, hcx, hnx, hcx2, hbx⟩ := hG.2 q hil2
        have hdl := hlen gs[q] (List.getElem_mem hil2)
        have HT := Lib.hid (take_snoc (List.getElem?_eq_getElem hil2))
        obtain ⟨d, hd⟩ : ∃ d, gs[q] = d := ⟨_, rfl⟩
        rw [hd] at hbx hdl HT
        have Hx := Lib.hid hbx.len
        have hnx3 : nx ≤ 140737488351300 := by have := Hx.out; omega
        have hcxl := cell_lt hcx
        have hrl2 := hX.blk.lt
        have hrow := hX.row
        have hnil := hX.nil
        have hone := gvs_one hX.forms
        have hbz := fun h => hbx.zero h
        have HX := Lib.hid hX
        clear hX hG hd
        go_wp2_with fail
        go_region_law (first
          -- A: the list
          | (refine step_app _ rfl (.const (.slice none 0 0)) (.tmp 25) _ rfl wr.heap.size 91 i0 _ 2 32 Try.underlying43 hi0' hz0 hz1 Hz.out rfl (by omega) (.slice none 0 0) 0 [] rfl (own_nil _ _ _ _) A m cc (gvs L) rfl hnil (show Rd wr.drew A 2 m (gvs L) from hrow) hone (by unfold maxLen; omega) (by omega) (Nat.le_refl _) ?_
             intro vA wA hownA hgA hatA
             obtain ⟨AA, cA, rfl, hcA, hmA, haA⟩ := own_form hownA
             simp only [Nat.zero_add, List.nil_append] at hownA hcA haA ⊢
             have hgA' : wr.grownBy wA none := undrew hgA
             have hsA : wr.heap.size ≤ wA.heap.size := hgA'.size
             have cxA : wA.cell? ⟨ba, oa + q, none⟩ = some (.slice X nx cx) := hgA'.cell hcx (fun e => by cases e))
          | (refine step_app _ rfl (.const (.slice none 0 0)) (.tmp 25) _ rfl wr.heap.size 91 i0 _ 2 32 Try.underlying43 hi0' hz0 hz1 Hz.out rfl (by omega) (.slice none 0 0) 0 [] rfl (own_nil _ _ _ _) A m cc (gvs L) rfl hnil (rd_keep hrow hgB') hone (by unfold maxLen; omega) (by omega) hsB ?_
             intro vA wA hownA hgA2 hatA
             obtain ⟨AA, cA, rfl, hcA, hmA, haA⟩ := own_form hownA
             simp only [Nat.zero_add, List.nil_append] at hownA hcA haA ⊢
             have hgA' : wr.grownBy wA none := hgB'.trans hgA2
             have hsA : wr.heap.size ≤ wA.heap.size := hgA'.size
             have hB4 := own_keep (own_keep hownB (grown_none_below hgA2)) ((Below.refl wA.heap.size wA).alloc (Nat.le_refl _) (.cells #[.slice AB nx cB, .bool false] 91))
             have hg4 := hgA'.trans (World.grownBy_alloc wA (.cells #[.slice AB nx cB, .bool false] 91) none)
             have hownA4 : (wA.alloc (.cells #[.slice AB nx cB, .bool false] 91)).ownsRow wr.heap.size 91 2 (.slice AA m cA) m (gvs L) := own_keep hownA ((Below.refl _ _).alloc (Nat.le_refl _) _)
             have hnew2 : Rd (wA.alloc (.cells #[.slice AB nx cB, .bool false] 91)) (some ⟨wA.heap.size, 0, none⟩) 2 1 (gv (.slice AB nx cB, ⟨d, false⟩)) := Rd.new wA _ _ (0, 0) (sz := 2) (n := 1) rfl
             have hb2 : wr.heap.size ≤ (wA.alloc (.cells #[.slice AB nx cB, .bool false] 91)).heap.size := by simp; omega)
          | (refine step_app _ rfl (.const (.slice none 0 0)) (.tmp 25) _ rfl wr.heap.size 91 i0 _ 2 32 Try.underlying43 hi0' hz0 hz1 Hz.out rfl (by omega) (.slice none 0 0) 0 [] rfl (own_nil _ _ _ _) A m cc (gvs L) rfl hnil (rd_keep hrow (hgB'.trans (World.grownBy_alloc wB (.cells #[.slice AB nx cB, .bool false] 91) none))) hone (by unfold maxLen; omega) (by omega) (by simp; omega) ?_
             intro vA wA hownA hgA2 hatA
             obtain ⟨AA, cA, rfl, hcA, hmA, haA⟩ := own_form hownA
             simp only [Nat.zero_add, List.nil_append] at hownA hcA haA ⊢
             have hgA' : wr.grownBy wA none := (hgB'.trans (World.grownBy_alloc wB (.cells #[.slice AB nx cB, .bool false] 91) none)).trans hgA2
             have hsA : wr.heap.size ≤ wA.heap.size := hgA'.size
             have hB5 := own_keep (own_keep hownB ((Below.refl wB.heap.size wB).alloc (Nat.le_refl _) (.cells #[.slice AB nx cB, .bool false] 91))) (grown_none_below hgA2)
             have hnewA := rd_keep (Rd.new wB #[.slice AB nx cB, .bool false] 91 (0, 0) (sz := 2) (n := 1) rfl) hgA2)
          -- B: the bytes
          | (refine step_app _ rfl (.const (.slice none 0 0)) (.tmp 30) _ rfl wr.heap.size 5 i1 _ 1 1 Try.underlying22 hi1' hy0 hy1 Hy.out rfl (by omega) (.slice none 0 0) 0 [] rfl (own_nil _ _ _ _) X nx cx (bvs d) rfl hbz (show Rd wr.drew X 1 nx (bvs d) from hbx) (bvs_one _) (by unfold maxLen; omega) (by omega) (Nat.le_refl _) ?_
             intro vB wB hownB hgB hatB
             obtain ⟨AB, cB, rfl, hcB, hmB, haB⟩ := own_form hownB
             simp only [Nat.zero_add, List.nil_append] at hownB hcB haB ⊢
             have hgB' : wr.grownBy wB none := undrew hgB
             have hsB : wr.heap.size ≤ wB.heap.size := hgB'.size
             have c0B : wB.cell? ⟨r, 0, none⟩ = some (.slice A m cc) := hgB'.cell c0 (fun e => by cases e)
             have c0B2 : (wB.alloc (.cells #[.slice AB nx cB, .bool false] 91)).cell? ⟨r, 0, none⟩ = some (.slice A m cc) := (hgB'.trans (World.grownBy_alloc wB (.cells #[.slice AB nx cB, .bool false] 91) none)).cell c0 (fun e => by cases e))
          | (refine step_app _ rfl (.const (.slice none 0 0)) (.tmp 30) _ rfl wr.heap.size 5 i1 _ 1 1 Try.underlying22 hi1' hy0 hy1 Hy.out rfl (by omega) (.slice none 0 0) 0 [] rfl (own_nil _ _ _ _) X nx cx (bvs d) rfl hbz (rd_keep hbx hgA') (bvs_one _) (by unfold maxLen; omega) (by omega) hsA ?_
             intro vB wB hownB hgB2 hatB
             obtain ⟨AB, cB, rfl, hcB, hmB, haB⟩ := own_form hownB
             simp only [Nat.zero_add, List.nil_append] at hownB hcB haB ⊢
             have hgB' : wr.grownBy wB none := hgA'.trans hgB2
             have hsB : wr.heap.size ≤ wB.heap.size := hgB'.size
             have hownA2 := own_keep hownA (grown_none_below hgB2)
             have hownA3 : (wB.alloc (.cells #[.slice AB nx cB, .bool false] 91)).ownsRow wr.heap.size 91 2 (.slice AA m cA) m (gvs L) := own_keep hownA2 ((Below.refl _ _).alloc (Nat.le_refl _) _)
             have hnew1 : Rd (wB.alloc (.cells #[.slice AB nx cB, .bool false] 91)) (some ⟨wB.heap.size, 0, none⟩) 2 1 (gv (.slice AB nx cB, ⟨d, false⟩)) := Rd.new wB _ _ (0, 0) (sz := 2) (n := 1) rfl
             have hB3 := own_keep hownB ((Below.refl wB.heap.size wB).alloc (Nat.le_refl _) (.cells #[.slice AB nx cB, .bool false] 91))
             have hg3 := hgB'.trans (World.grownBy_alloc wB (.cells #[.slice AB nx cB, .bool false] 91) none)
             have hb1 : wr.heap.size ≤ (wB.alloc (.cells #[.slice AB nx cB, .bool false] 91)).heap.size := by simp; omega)
          -- D: both
          | (refine step_app _ rfl (.tmp 26) (.tmp 33) _ rfl wr.heap.size 91 i0 _ 2 32 Try.underlying43 hi0' hz0 hz1 Hz.out rfl (by omega) (.slice AA m cA) m (gvs L) rfl hownA3 _ 1 1 (gv (.slice AB nx cB, ⟨d, false⟩)) rfl (by simp) hnew1 (gv_one _ _ _ _) (by unfold maxLen; omega) (by omega) hb1 ?_
             intro vD wD hownD hgD hatD
             obtain ⟨AD, cD, rfl, hcD, hmD, haD⟩ := own_form hownD
             have hgD' : wr.grownBy wD none := grown_step hg3 hgD (fun j e => .inl (hownA3.lt j e).1)
             have hownBD := own_grown hB3 hgD (fun k hk e => own_ne hownA3 hB3 (by decide) (g := k) e.symm hk)
             have kD : wD.cell? ⟨r, 0, none⟩ = some (.slice A m cc) := hgD'.cell c0 (fun e => by cases e)
             have fD := (HX.out.blk.grown hgD' (fun e => by cases e)).free 0)
          | (refine step_app _ rfl (.tmp 26) (.tmp 33) _ rfl wr.heap.size 91 i0 _ 2 32 Try.underlying43 hi0' hz0 hz1 Hz.out rfl (by omega) (.slice AA m cA) m (gvs L) rfl hownA4 _ 1 1 (gv (.slice AB nx cB, ⟨d, false⟩)) rfl (by simp) hnew2 (gv_one _ _ _ _) (by unfold maxLen; omega) (by omega) hb2 ?_
             intro vD wD hownD hgD hatD
             obtain ⟨AD, cD, rfl, hcD, hmD, haD⟩ := own_form hownD
             have hgD' : wr.grownBy wD none := grown_step hg4 hgD (fun j e => .inl (hownA4.lt j e).1)
             have hownBD := own_grown hB4 hgD (fun k hk e => own_ne hownA4 hB4 (by decide) (g := k) e.symm hk)
             have kD : wD.cell? ⟨r, 0, none⟩ = some (.slice A m cc) := hgD'.cell c0 (fun e => by cases e)
             have fD := (HX.out.blk.grown hgD' (fun e => by cases e)).free 0)
          | (refine step_app _ rfl (.tmp 26) (.tmp 33) _ rfl wr.heap.size 91 i0 _ 2 32 Try.underlying43 hi0' hz0 hz1 Hz.out rfl (by omega) (.slice AA m cA) m (gvs L) rfl hownA _ 1 1 (gv (.slice AB nx cB, ⟨d, false⟩)) rfl (by simp) hnewA (gv_one _ _ _ _) (by unfold maxLen; omega) (by omega) hsA ?_
             intro vD wD hownD hgD hatD
             obtain ⟨AD, cD, rfl, hcD, hmD, haD⟩ := own_form hownD
             have hgD' : wr.grownBy wD none := grown_step hgA' hgD (fun j e => .inl (hownA.lt j e).1)
             have hownBD := own_grown hB5 hgD (fun k hk e => own_ne hownA hB5 (by decide) (g := k) e.symm hk)
             have kD : wD.cell? ⟨r, 0, none⟩ = some (.slice A m cc) := hgD'.cell c0 (fun e => by cases e)
             have fD := (HX.out.blk.grown hgD' (fun e => by cases e)).free 0))
        all_goals (
          have hput := HX.out.put (V' := fun k => V k ∨ w.heap.size ≤ k) hgD' (v := .slice AD (m + 1) cD) (n' := m + 1) (L' := L ++ [(.slice AB nx cB, (⟨d, false⟩ : Gr))]) (by rw [gvs_snoc]; exact hownD) (Nat.le_refl _) (by rw [List.length_append, List.length_singleton, ← HX.out.len]) (by omega) (fun j e => e) (fun j e => .inr (by omega)) (fun p hp => by
            rcases List.mem_append.1 hp with hp | hp
            · exact .inl hp
            · rw [List.mem_singleton.1 hp]
              refine .inr ⟨AB, nx, cB, rfl, bs_own hownBD, hcB, by unfold maxLen at hmB; omega, hnx3, fun a ea => ?_⟩
              have := hownBD.lt a.block (by rw [ea]; rfl)
              exact ⟨.inr (by omega), by omega, this.2⟩) (fun e => e.elim hVr (by omega))
          have HP := Lib.hid hput
          clear hput hownA hgA' hgD' hownD hgD hatD hownBD hownB hrow hone
          go_wp2
          go_roundw
          case rel =>
            refine ⟨q + 1, by omega, by have := Hmk.out; omega, by go_num, by go_num, ?_, hF.then HP.out.2 (fun j e => .inl e)⟩
            have h := HP.out.1
            rw [List.map_append, ← HL.out] at h
            rw [HT.out, List.map_append, ← List.append_assoc]
            exact h
          case measure => simp [intOf]; omega)
      · have hmi : ¬ (m : Int) < 256 := by omega
        have HP := Lib.hid (show putN l gs = q by unfold putN; rw [Hk.out]; have := Hn.out; have := Hmk.out; omega)
        have HQ := Lib.hid (show putS l gs = l ++ (gs.take q).map (fun d => (⟨d, false⟩ : Gr)) by unfold putS; rw [Hk.out, show 256 - k = q by have := Hmk.out; omega])
        go_wp2
        go_ret
        rw [HP.out, HQ.out]
        exact ⟨rfl, ⟨A, m, cc, L, HL.out, hX⟩, hF⟩
    · have hqi : ¬ (q : Int) < (n : Int) := by omega
      have HP := Lib.hid (show putN l gs = q by unfold putN; rw [Hk.out]; have := Hn.out; omega)
      have HQ := Lib.hid (show putS l gs = l ++ (gs.take q).map (fun d => (⟨d, false⟩ : Gr)) by
        unfold putS
        rw [Hk.out]
        congr 2
        exact List.take_eq_take_iff.2 (by have := Hn.out; omega))
      go_wp2
      go_ret
      rw [HP.out, HQ.out]
      exact ⟨rfl, ⟨A, m, cc, L, HL.out, hX⟩, hF⟩
end
end Net
end Go.Proofs.Ytallbhdfbkkjkaa

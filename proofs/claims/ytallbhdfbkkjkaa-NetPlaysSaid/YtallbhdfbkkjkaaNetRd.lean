/- Layer 15: the document's bag: Twice. -/
import Derived.Test.YtallbhdfbkkjkaaNetRc
import Derived.Test.YtallbhdfbkkjkaaNetR
set_option linter.all false
namespace Go.Proofs.Ytallbhdfbkkjkaa
open Go.RowKit
namespace Net
section
variable (w : World)
set_option maxRecDepth 100000 in
set_option maxHeartbeats 8000000 in
theorem rtwice_ (r : Nat) (V : Nat → Prop) (l : List Gr) (h : Rg w r V l) (hV : ∀ k, V k → k < w.heap.size) (hVr : ¬ V r) (i : Int) :
    Calls Try.prog 23 #[.pointer (some ⟨r, 0, none⟩), .int .i64 i] w fun e w' => e = .returned (.int .i64 (twiE l i)) ∧ Rg w' r (fun k => V k ∨ w.heap.size ≤ k) (twiS l i) ∧ Fu (fun k => k = r) w w' := by
  obtain ⟨i0, hi0', hz0, hz1, hz2⟩ := rgram_info
  have Hz := Lib.hid hz2
  clear hz2
  obtain ⟨A, n, c, L, rfl, hX⟩ := h
  have hRh := rhas_ w r V A n c L hX i
  have c0 := hX.blk.cell (j := 0) (u := .slice A n c) rfl
  by_cases hi : hasB (L.map (·.2)) i = true
  · obtain ⟨t1, t2⟩ := twice_of hi
    rw [hi] at hRh
    have hi2 := has_iff.1 hi
    rw [List.length_map, ← hX.len] at hi2 t1 t2
    obtain ⟨k, rfl⟩ := Int.eq_ofNat_of_zero_le hi2.1
    have hk : k < n := by omega
    by_cases hf : 256 ≤ n
    · rw [if_pos hf] at t1 t2
      have HT := Lib.hid t1
      have HS := Lib.hid t2
      have hfi : (256 : Int) ≤ (n : Int) := by omega
      clear t1 t2 hi hi2
      go_enter Try.func23, Try.ntmps23
      go_wp2_with fail
      refine hRh.mono ?_
      rintro e w' ⟨rfl, rfl⟩
      go_wp2
      go_ret
      rw [HT.out, HS.out]
      exact ⟨rfl, ⟨A, n, c, L, rfl, hX.sub (fun k hk _ => .inl hk)⟩, Fu.refl _ _⟩
    · rw [if_neg hf] at t1 t2
      obtain ⟨b, o, X, m, d, x, rfl, hLk, e0, e1, hbx, hmd, hd, hmb, hVX⟩ := hX.elem hk
      have hil : k < L.length := by rw [← hX.len]; exact hk
      rw [getG_map hil, show L[k].2 = x by rw [List.getElem?_eq_getElem hil] at hLk; injection hLk with hLk; rw [hLk]] at t2
      have hmem : ((.slice X m d, x) : Value × Gr) ∈ L := List.mem_of_getElem? hLk
      have HT := Lib.hid t1
      have HS := Lib.hid (show twiS (L.map (·.2)) (k : Int) = (L ++ [((Value.slice X m d, x) : Value × Gr)]).map (·.2) by rw [t2, List.map_append]; rfl)
      have hnc := hX.le
      have hcc := hX.cap
      have hrl := hX.blk.lt
      have hrow := hX.row
      have hone := gvs_one hX.forms
      have HX := Lib.hid hX
      have hbl : b < w.heap.size := cell_lt e0
      have k1 : (k : Int) < (n : Int) := by omega
      have k2 : (0 : Int) ≤ (k : Int) := by omega
      have hfi : ¬ (256 : Int) ≤ (n : Int) := by omega
      have hn256 : n < 256 := by omega
      have c0B : (w.drew.alloc (.cells #[.slice X m d, .bool x.s] 91)).cell? ⟨r, 0, none⟩ = some (.slice (some ⟨b, o, none⟩) n c) := (World.grownBy_alloc w.drew (.cells #[.slice X m d, .bool x.s] 91) none).cell c0 (fun e => by cases e)
      have hrowB : Rd (w.drew.alloc (.cells #[.slice X m d, .bool x.s] 91)) (some ⟨b, o, none⟩) 2 n (gvs L) := Rd.alloc (show Rd w.drew _ 2 n _ from hrow) _
      have hsB : w.heap.size ≤ (w.drew.alloc (.cells #[.slice X m d, .bool x.s] 91)).heap.size := by simp
      have hgB : w.grownBy (w.drew.alloc (.cells #[.slice X m d, .bool x.s] 91)) none := undrew (World.grownBy_alloc w.drew _ none)
      have hnewB : Rd (w.drew.alloc (.cells #[.slice X m d, .bool x.s] 91)) (some ⟨w.heap.size, 0, none⟩) 2 1 (gv (.slice X m d, x)) := Rd.new w.drew _ _ (0, 0) (sz := 2) (n := 1) rfl
      clear hi hi2 t1 t2 hX hbx hLk hil
      go_enter Try.func23, Try.ntmps23
      go_wp2_with fail
      refine hRh.mono ?_
      rintro e w' ⟨rfl, rfl⟩
      go_wp2_with fail
      go_region_law (first
        | (refine step_app _ rfl (.const (.slice none 0 0)) (.tmp 19) _ rfl w.heap.size 91 i0 _ 2 32 Try.underlying43 hi0' hz0 hz1 Hz.out rfl (by omega) (.slice none 0 0) 0 [] rfl (own_nil _ _ _ _) (some ⟨b, o, none⟩) n c (gvs L) rfl (fun e => by cases e) (show Rd w.drew _ 2 n _ from hrow) hone (by unfold maxLen; omega) (by omega) (Nat.le_refl _) ?_
           intro vA wA hownA hgA hatA
           obtain ⟨AA, cA, rfl, hcA, hmA, haA⟩ := own_form hownA
           simp only [Nat.zero_add, List.nil_append] at hownA hcA haA ⊢
           have hgA' : w.grownBy wA none := undrew hgA
           have hsA : w.heap.size ≤ wA.heap.size := hgA'.size
           have c0A : wA.cell? ⟨r, 0, none⟩ = some (.slice (some ⟨b, o, none⟩) n c) := hgA'.cell c0 (fun e => by cases e)
           have e0A : wA.cell? ⟨b, o + k * 2, none⟩ = some (.slice X m d) := hgA'.cell e0 (fun e => by cases e)
           have e1A : wA.cell? ⟨b, o + k * 2 + 1, none⟩ = some (.bool x.s) := hgA'.cell e1 (fun e => by cases e)
           have hown1 : (wA.alloc (.cells #[.slice X m d, .bool x.s] 91)).ownsRow w.heap.size 91 2 (.slice AA n cA) n (gvs L) := own_keep hownA ((Below.refl _ _).alloc (Nat.le_refl _) _)
           have hnew1 : Rd (wA.alloc (.cells #[.slice X m d, .bool x.s] 91)) (some ⟨wA.heap.size, 0, none⟩) 2 1 (gv (.slice X m d, x)) := Rd.new wA _ _ (0, 0) (sz := 2) (n := 1) rfl
           have hb1 : w.heap.size ≤ (wA.alloc (.cells #[.slice X m d, .bool x.s] 91)).heap.size := by simp; omega
           have hg1 := hgA'.trans (World.grownBy_alloc wA (.cells #[.slice X m d, .bool x.s] 91) none))
        | (refine step_app _ rfl (.const (.slice none 0 0)) (.tmp 19) _ rfl w.heap.size 91 i0 _ 2 32 Try.underlying43 hi0' hz0 hz1 Hz.out rfl (by omega) (.slice none 0 0) 0 [] rfl (own_nil _ _ _ _) (some ⟨b, o, none⟩) n c (gvs L) rfl (fun e => by cases e) hrowB hone (by unfold maxLen; omega) (by omega) hsB ?_
           intro vA wA hown1 hgA hatA
           obtain ⟨AA, cA, rfl, hcA, hmA, haA⟩ := own_form hown1
           simp only [Nat.zero_add, List.nil_append] at hown1 hcA haA ⊢
           have hg1 : w.grownBy wA none := hgB.trans hgA
           have hb1 : w.heap.size ≤ wA.heap.size := hg1.size
           have hnew1 := rd_keep hnewB hgA)
        | (refine step_app _ rfl (.tmp 20) (.tmp 28) _ rfl w.heap.size 91 i0 _ 2 32 Try.underlying43 hi0' hz0 hz1 Hz.out rfl (by omega) (.slice AA n cA) n (gvs L) rfl hown1 _ 1 1 (gv (.slice X m d, x)) rfl (by simp) hnew1 (gv_one _ _ _ _) (by unfold maxLen; omega) (by omega) hb1 ?_
           intro vD wD hownD hgD hatD
           obtain ⟨AD, cD, rfl, hcD, hmD, haD⟩ := own_form hownD
           have hgD' : w.grownBy wD none := grown_step hg1 hgD (fun j e => .inl (hown1.lt j e).1)
           have kD : wD.cell? ⟨r, 0, none⟩ = some (.slice (some ⟨b, o, none⟩) n c) := hgD'.cell c0 (fun e => by cases e)
           have fD := (HX.out.blk.grown hgD' (fun e => by cases e)).free 0))
      all_goals (
        have hput := HX.out.put (V' := fun k => V k ∨ w.heap.size ≤ k) hgD' (v := .slice AD (n + 1) cD) (n' := n + 1) (L' := L ++ [(.slice X m d, x)]) (by rw [gvs_snoc]; exact hownD) (Nat.le_refl _) (by rw [List.length_append, List.length_singleton, ← HX.out.len]) (by omega) (fun j e => .inl e) (fun j e => .inr e) (fun p hp => by
          rcases List.mem_append.1 hp with hp | hp
          · exact .inl hp
          · rw [List.mem_singleton.1 hp]; exact .inl hmem) hVr
        have HP := Lib.hid hput
        clear hput hown1 hgD' hownD hgD hatD kD fD
        go_wp2
        go_ret
        rw [HT.out, HS.out]
        exact ⟨rfl, HP.out.1, HP.out.2⟩)
  · have hi : hasB (L.map (·.2)) i = false := by simpa using hi
    obtain ⟨t1, t2⟩ := twice_no hi
    rw [hi] at hRh
    have HT := Lib.hid t1
    have HS := Lib.hid t2
    clear t1 t2 hi
    go_enter Try.func23, Try.ntmps23
    go_wp2_with fail
    refine hRh.mono ?_
    rintro e w' ⟨rfl, rfl⟩
    go_wp2
    go_ret
    rw [HT.out, HS.out]
    exact ⟨rfl, ⟨A, n, c, L, rfl, hX.sub (fun k hk _ => .inl hk)⟩, Fu.refl _ _⟩
end
end Net
end Go.Proofs.Ytallbhdfbkkjkaa

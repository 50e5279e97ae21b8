/- Layer 17: the document's agent: Has, Order. -/
import Derived.Test.YtpjbeodnalgkfaaBarG
set_option linter.all false
namespace Go.Proofs.Ytpjbeodnalgkfaa
open Go.RowKit
namespace Bar
abbrev raa (a : Ag) (v : Value) : Array Value := #[.int .i64 a.fz, .int .i64 a.pr, v]
structure RgX (w : World) (b : Nat) (U : Nat → Prop) (a : Ag) (A : Option Addr) (n cp : Nat) : Prop where
  blk : Blk w b 27 (raa a (.slice A n cp))
  row : Op w U A n cp a.cm
  out : ¬ U b
  nil : A = none → n = 0
def Rg (w : World) (b : Nat) (U : Nat → Prop) (a : Ag) : Prop := ∃ A n cp, RgX w b U a A n cp
section
variable {w w' : World} {b n cp : Nat} {a : Ag} {S U U' : Nat → Prop} {A : Option Addr}
theorem RgX.fu (h : RgX w b U a A n cp) (hf : Fu S w w') (hs : ∀ k, U k → ¬ S k) (h0 : ¬ S b) : RgX w' b U a A n cp := ⟨blk_fu h.blk hf h0, h.row.fu hf hs, h.out, h.nil⟩
theorem Rg.fu (h : Rg w b U a) (hf : Fu S w w') (hs : ∀ k, U k → ¬ S k) (h0 : ¬ S b) : Rg w' b U a := by obtain ⟨A, n, cp, h⟩ := h; exact ⟨A, n, cp, h.fu hf hs h0⟩
theorem Rg.keep (h : Rg w b U a) (hb : Below w.heap.size w w') : Rg w' b U a := h.fu (S := fun _ => False) (Fu.ofBelow hb) (fun _ _ e => e) (fun e => e)
theorem RgX.sub (h : RgX w b U a A n cp) (hu : ∀ k, U k → k < w.heap.size → U' k) (ho : ¬ U' b) : RgX w b U' a A n cp := ⟨h.blk, h.row.sub hu, ho, h.nil⟩
theorem Rg.sub (h : Rg w b U a) (hu : ∀ k, U k → k < w.heap.size → U' k) (ho : ¬ U' b) : Rg w b U' a := by obtain ⟨A, n, cp, h⟩ := h; exact ⟨A, n, cp, h.sub hu ho⟩
theorem Rg.lt (h : Rg w b U a) : b < w.heap.size := by obtain ⟨A, n, cp, h⟩ := h; exact h.blk.lt
theorem RgX.cells (h : RgX w b U a A n cp) : w.cell? ⟨b, 0, none⟩ = some (.int .i64 a.fz) ∧ w.cell? ⟨b, 1, none⟩ = some (.int .i64 a.pr) ∧ w.cell? ⟨b, 2, none⟩ = some (.slice A n cp) := ⟨h.blk.cell rfl, h.blk.cell rfl, h.blk.cell rfl⟩
theorem RgX.setF (h : RgX w b U a A n cp) (x : Int) : RgX (w.setCell ⟨b, 0, none⟩ (.int .i64 x)) b U { a with fz := x } A n cp :=
  ⟨by have := h.blk.setCell 0 (.int .i64 x); simpa using this, h.row.fu (S := fun k => k = b) (fu_set (S := fun k => k = b) (Fu.refl _ _) _ _ _ rfl) (fun k hk e => h.out (e ▸ hk)), h.out, h.nil⟩
theorem RgX.setP (h : RgX w b U a A n cp) (x : Int) : RgX (w.setCell ⟨b, 1, none⟩ (.int .i64 x)) b U { a with pr := x } A n cp :=
  ⟨by have := h.blk.setCell 1 (.int .i64 x); simpa using this, h.row.fu (S := fun k => k = b) (fu_set (S := fun k => k = b) (Fu.refl _ _) _ _ _ rfl) (fun k hk e => h.out (e ▸ hk)), h.out, h.nil⟩
end
/-- Where it comes to stand. -/
def RgA (w w' : World) (b : Nat) (U : Nat → Prop) (a : Ag) : Prop := Rg w' b (fun k => U k ∨ w.heap.size ≤ k) a ∧ Fu (fun k => k = b) w w'
theorem RgA.of {w w' : World} {b n cp : Nat} {U : Nat → Prop} {a : Ag} {A : Option Addr} (hlt : b < w.heap.size) (h : RgX w' b U a A n cp) (hF : Fu (fun k => k = b) w w') : RgA w w' b U a :=
  ⟨⟨A, n, cp, h.sub (fun k hk _ => .inl hk) (fun q => q.elim h.out (by omega))⟩, hF⟩
section
variable (w : World)
set_option maxRecDepth 100000 in
set_option maxHeartbeats 4000000 in
theorem has_ (A : Option Addr) (n cp : Nat) (l : List Int) (h : Is w A n l) (hn : n ≤ cp) (hcp : cp ≤ 9223372036854775807) (z : Int) : Calls Try.prog 18 #[.slice A n cp, .int .i64 z] w fun e w' => e = .returned (.bool (decide (z ∈ l))) ∧ w = w' := by
  have HL := Lib.hid h.len
  have HI := Lib.hid h
  obtain ⟨d, hd⟩ : ∃ d, decide (z ∈ l) = d := ⟨_, rfl⟩
  have Hd := Lib.hid hd
  rw [hd]
  clear h hd
  go_enter Try.func18, Try.ntmps18
  go_wp2
  go_loopw [5] (fun iv wr => ∃ i : Nat, i ≤ n ∧ iv = .int .i64 (i : Int) ∧ wr = w ∧ Hid (z ∉ l.take i)) (fun iv _ => n - (intOf iv).toNat)
  case atStart => exact ⟨0, Nat.zero_le _, rfl, rfl, Lib.hid (by simp)⟩
  case round =>
    obtain ⟨i, hi, rfl, hwr, hz⟩ := hrel
    subst hwr
    by_cases hlt : i < n
    · have hil : (i : Int) < (n : Int) := by omega
      have hi0' : (0 : Int) ≤ (i : Int) := by omega
      obtain ⟨b, ox, x, rfl, hx, cx⟩ := HI.out.get hlt
      by_cases hxz : x = z
      · have t0 : (x == z) = true := by simpa using hxz
        have HE := Lib.hid (show d = true by rw [← Hd.out]; exact decide_eq_true (hxz ▸ List.mem_of_getElem? hx))
        clear hxz hx
        go_wp2
        go_ret
        exact ⟨by rw [HE.out]; rfl, rfl⟩
      · have t0 : (x == z) = false := by simpa using hxz
        have hz2 := Lib.hid (show z ∉ l.take (i + 1) by
          rw [List.take_add_one, hx]
          simp only [Option.toList_some, List.mem_append, List.mem_singleton]
          exact fun q => q.elim hz.out (fun q => hxz q.symm))
        clear hxz hx
        go_wp2
        go_roundw
        case rel => exact ⟨i + 1, by omega, by go_num, by first | trivial | rfl, hz2⟩
        case measure => simp [intOf]; omega
    · have he : i = n := by omega
      subst he
      have hil : ¬ (i : Int) < (i : Int) := by omega
      have HE := Lib.hid (show d = false by
        rw [← Hd.out]
        refine decide_eq_false (fun q => hz.out ?_)
        rw [List.take_of_length_le (by rw [← HL.out]; omega)]; exact q)
      go_wp2
      go_ret
      exact ⟨by rw [HE.out]; rfl, rfl⟩
set_option maxRecDepth 100000 in
set_option maxHeartbeats 4000000 in
theorem rorder_ (b : Nat) (U : Nat → Prop) (a : Ag) (h : Rg w b U a) (k id : Int) (hn : a.cm.length ≤ 8796093022200) : Calls Try.prog 14 #[.pointer (some ⟨b, 0, none⟩), .int .i64 k, .int .i64 id] w fun r w' => r = .returned (.int .i64 (ordK a k id)) ∧ RgA w w' b U (ordS a k id) := by
  obtain ⟨A, n, cp, h⟩ := h
  have hlt := h.blk.lt
  obtain ⟨c0, c1, c2⟩ := h.cells
  have f0 := h.blk.free 0
  have f1 := h.blk.free 1
  have f2 := h.blk.free 2
  have hnl : n ≤ 8796093022200 := by have := h.row.is.len; omega
  have H := Lib.hid h
  have hH := has_ w A n cp a.cm h.row.is h.row.cap h.row.top id
  clear h
  unfold ordK ordS
  by_cases h0 : id < 1
  · rw [if_pos h0, if_pos h0]
    go_enter Try.func14, Try.ntmps14
    go_wp2
    go_ret
    exact ⟨rfl, RgA.of hlt H.out (Fu.refl _ _)⟩
  · rw [if_neg h0, if_neg h0]
    by_cases k1 : k = 1
    · rw [if_pos k1, if_pos k1]
      subst k1
      by_cases hm : id ∈ a.cm
      · have HR : refF a id := .inl hm
        rw [if_pos HR, if_pos HR]
        rw [decide_eq_true hm] at hH
        clear hm HR
        go_enter Try.func14, Try.ntmps14
        go_wp2_with fail
        refine hH.mono ?_
        rintro r w' ⟨rfl, rfl⟩
        go_wp2
        go_ret
        exact ⟨rfl, RgA.of hlt H.out (Fu.refl _ _)⟩
      · rw [decide_eq_false hm] at hH
        by_cases zfz : a.fz = 0
        · have t0fz : (a.fz != 0) = false := by simpa using zfz
          by_cases zpr : a.pr = 0
          · have t0pr : (a.pr != 0) = false := by simpa using zpr
            have HR : ¬ refF a id := fun q => q.elim hm (fun q => q.elim (fun q => by omega) (fun q => by omega))
            rw [if_neg HR, if_neg HR]
            clear HR hm zfz zpr
            go_enter Try.func14, Try.ntmps14
            go_wp2_with fail
            refine hH.mono ?_
            rintro r w' ⟨rfl, rfl⟩
            go_wp2
            go_ret
            exact ⟨rfl, RgA.of hlt (H.out.setF id) (fu_set (S := fun k => k = b) (Fu.refl _ _) _ _ _ rfl)⟩
          · have t0pr : (a.pr != 0) = true := by simpa using zpr
            by_cases ypr : a.pr = id
            · have t1pr : (a.pr != id) = false := by simpa using ypr
              have HR : ¬ refF a id := fun q => q.elim hm (fun q => q.elim (fun q => by omega) (fun q => by omega))
              rw [if_neg HR, if_neg HR]
              clear HR hm zfz zpr
              go_enter Try.func14, Try.ntmps14
              go_wp2_with fail
              refine hH.mono ?_
              rintro r w' ⟨rfl, rfl⟩
              go_wp2
              go_ret
              exact ⟨rfl, RgA.of hlt (H.out.setF id) (fu_set (S := fun k => k = b) (Fu.refl _ _) _ _ _ rfl)⟩
            · have t1pr : (a.pr != id) = true := by simpa using ypr
              have HR : refF a id := .inr (.inr ⟨zpr, ypr⟩)
              rw [if_pos HR, if_pos HR]
              clear HR hm zfz zpr ypr
              go_enter Try.func14, Try.ntmps14
              go_wp2_with fail
              refine hH.mono ?_
              rintro r w' ⟨rfl, rfl⟩
              go_wp2
              go_ret
              exact ⟨rfl, RgA.of hlt H.out (Fu.refl _ _)⟩
        · have t0fz : (a.fz != 0) = true := by simpa using zfz
          by_cases yfz : a.fz = id
          · have t1fz : (a.fz != id) = false := by simpa using yfz
            by_cases zpr : a.pr = 0
            · have t0pr : (a.pr != 0) = false := by simpa using zpr
              have HR : ¬ refF a id := fun q => q.elim hm (fun q => q.elim (fun q => by omega) (fun q => by omega))
              rw [if_neg HR, if_neg HR]
              clear HR hm zfz zpr
              go_enter Try.func14, Try.ntmps14
              go_wp2_with fail
              refine hH.mono ?_
              rintro r w' ⟨rfl, rfl⟩
              go_wp2
              go_ret
              exact ⟨rfl, RgA.of hlt (H.out.setF id) (fu_set (S := fun k => k = b) (Fu.refl _ _) _ _ _ rfl)⟩
            · have t0pr : (a.pr != 0) = true := by simpa using zpr
              by_cases ypr : a.pr = id
              · have t1pr : (a.pr != id) = false := by simpa using ypr
                have HR : ¬ refF a id := fun q => q.elim hm (fun q => q.elim (fun q => by omega) (fun q => by omega))
                rw [if_neg HR, if_neg HR]
                clear HR hm zfz zpr
                go_enter Try.func14, Try.ntmps14
                go_wp2_with fail
                refine hH.mono ?_
                rintro r w' ⟨rfl, rfl⟩
                go_wp2
                go_ret
                exact ⟨rfl, RgA.of hlt (H.out.setF id) (fu_set (S := fun k => k = b) (Fu.refl _ _) _ _ _ rfl)⟩
              · have t1pr : (a.pr != id) = true := by simpa using ypr
                have HR : refF a id := .inr (.inr ⟨zpr, ypr⟩)
                rw [if_pos HR, if_pos HR]
                clear HR hm zfz zpr ypr
                go_enter Try.func14, Try.ntmps14
                go_wp2_with fail
                refine hH.mono ?_
                rintro r w' ⟨rfl, rfl⟩
                go_wp2
                go_ret
                exact ⟨rfl, RgA.of hlt H.out (Fu.refl _ _)⟩
          · have t1fz : (a.fz != id) = true := by simpa using yfz
            have HR : refF a id := .inr (.inl ⟨zfz, yfz⟩)
            rw [if_pos HR, if_pos HR]
            clear HR hm zfz yfz
            go_enter Try.func14, Try.ntmps14
            go_wp2_with fail
            refine hH.mono ?_
            rintro r w' ⟨rfl, rfl⟩
            go_wp2
            go_ret
            exact ⟨rfl, RgA.of hlt H.out (Fu.refl _ _)⟩
    · rw [if_neg k1, if_neg k1]
      have s1 : (k == 1) = false := by simpa using k1
      by_cases k2 : k = 2
      · rw [if_pos k2, if_pos k2]
        subst k2
        by_cases p0 : a.pr = id
        · have t0 : (a.pr != id) = false := by simpa using p0
          have HI : ¬ (a.pr ≠ id ∧ a.fz ≠ id) := fun q => q.1 p0
          rw [if_neg HI, if_neg HI]
          clear HI p0
          go_enter Try.func14, Try.ntmps14
          go_wp2_with fail
          refine hH.mono ?_
          rintro r w' ⟨rfl, rfl⟩
          go_wp2
          go_ret
          exact ⟨rfl, RgA.of hlt (H.out.setP id) (fu_set (S := fun k => k = b) (Fu.refl _ _) _ _ _ rfl)⟩
        · have t0 : (a.pr != id) = true := by simpa using p0
          by_cases p1 : a.fz = id
          · have t1 : (a.fz != id) = false := by simpa using p1
            have HI : ¬ (a.pr ≠ id ∧ a.fz ≠ id) := fun q => q.2 p1
            rw [if_neg HI, if_neg HI]
            clear HI p0 p1
            go_enter Try.func14, Try.ntmps14
            go_wp2_with fail
            refine hH.mono ?_
            rintro r w' ⟨rfl, rfl⟩
            go_wp2
            go_ret
            exact ⟨rfl, RgA.of hlt (H.out.setP id) (fu_set (S := fun k => k = b) (Fu.refl _ _) _ _ _ rfl)⟩
          · have t1 : (a.fz != id) = true := by simpa using p1
            have HI : a.pr ≠ id ∧ a.fz ≠ id := ⟨p0, p1⟩
            rw [if_pos HI, if_pos HI]
            clear HI p0 p1
            go_enter Try.func14, Try.ntmps14
            go_wp2_with fail
            refine hH.mono ?_
            rintro r w' ⟨rfl, rfl⟩
            go_wp2
            go_ret
            exact ⟨rfl, RgA.of hlt H.out (Fu.refl _ _)⟩
      · rw [if_neg k2, if_neg k2]
        have s2 : (k == 2) = false := by simpa using k2
        by_cases k3 : k = 3
        · rw [if_pos k3, if_pos k3]
          subst k3
          by_cases p0 : a.pr = id
          · have t0 : (a.pr == id) = true := by simpa using p0
            rw [if_pos (.inl p0), if_pos p0]
            obtain ⟨i0, hi0, hz0, hz1, hz2⟩ := int_info
            have Hz := Lib.hid hz2
            clear hz2 p0
            have hnil := H.out.nil
            have hz3 : 0 + n ≤ maxLen := by unfold maxLen; omega
            have hz4 : (0 + n) * 8 ≤ 140737488355328 := by omega
            have hz5 : n + 1 ≤ maxLen := by unfold maxLen; omega
            have hz6 : (n + 1) * 8 ≤ 140737488355328 := by omega
            obtain ⟨dn, hdn⟩ : ∃ d, decide (id ∈ a.cm) = d := ⟨_, rfl⟩
            rw [hdn] at hH
            clear hdn
            go_enter Try.func14, Try.ntmps14
            go_wp2_with fail
            refine hH.mono ?_
            rintro r w' ⟨rfl, rfl⟩
            go_wp2_with (first
              | (at_builtin
                 refine wpList_app _ rfl (.const (.slice none 0 0)) (.tmp 86) _ rfl w.heap.size 3 i0 _ 1 8 Try.underlying25 hi0 hz0 hz1 Hz.out rfl (by omega) _ 0 _ rfl (own_nil _ _ _ _) A n cp (ivs a.cm) rfl hnil H.out.row.is (ivs_one _) hz3 hz4 (Nat.le_refl _) ?_
                 intro v1 w1 ho1 hg1 hat1
                 rw [List.nil_append, Nat.zero_add] at ho1
                 have hb1 : Below w.heap.size w w1 := grown_none_below hg1
                 have hoa := own_keep ho1 ((Below.refl _ _).alloc (Nat.le_refl _) (.cells #[.int .i64 id] 3))
                 have hrd := (Is.new w1 [id] 3 (g := w1.heap.size) rfl (C := #[.int .i64 id]) rfl (n := 1) rfl)
                 have hs1 : w.heap.size ≤ (w1.alloc (.cells #[.int .i64 id] 3)).heap.size := by have := hb1.size; simp; omega
                 have hba : Below w.heap.size w (w1.alloc (.cells #[.int .i64 id] 3)) := hb1.alloc hb1.size _)
              | (at_builtin
                 go_must (refine wpList_app _ rfl (.tmp 87) (.tmp 89) _ rfl w.heap.size 3 i0 _ 1 8 Try.underlying25 hi0 hz0 hz1 Hz.out rfl (by omega) v1 n _ rfl hoa (some ⟨w1.heap.size, 0, none⟩) 1 1 (ivs [id]) rfl (fun h => by cases h) hrd (ivs_one _) hz5 hz6 hs1 ?_)
                 intro v2 w2 ho2 hg2 hat2
                 rw [← ivs_app] at ho2
                 have hb2 : Below w.heap.size w w2 := hba.grown hg2 hs1 (fun k hk => (ho1.lt k hk).1)
                 obtain ⟨A2, cp2, rfl, hc2, hm2, hn2⟩ := own_form ho2
                 have hk2 := H.out.blk.keep hb2
                 have d0 := hk2.cell (j := 0) (u := .int .i64 a.fz) rfl
                 have d1 := hk2.cell (j := 1) (u := .int .i64 a.pr) rfl
                 have d2 := hk2.cell (j := 2) (u := .slice A n cp) rfl
                 have g0 := hk2.free 0
                 have g1 := hk2.free 1
                 have g2 := hk2.free 2)
              | fail)
            go_ret
            have hF : Fu (fun k => k = b) w (((w2.setCell ⟨b, 2, none⟩ (.slice A2 (n + 1) cp2)).setCell ⟨b, 1, none⟩ (.int .i64 0)).setCell ⟨b, 0, none⟩ (.int .i64 0)) := fu_set (S := fun k => k = b) (fu_set (S := fun k => k = b) (fu_set (S := fun k => k = b) (Fu.ofBelow hb2) _ _ _ rfl) _ _ _ rfl) _ _ _ rfl
            have hF2 : Fu (fun k => k = b) w2 (((w2.setCell ⟨b, 2, none⟩ (.slice A2 (n + 1) cp2)).setCell ⟨b, 1, none⟩ (.int .i64 0)).setCell ⟨b, 0, none⟩ (.int .i64 0)) := fu_set (S := fun k => k = b) (fu_set (S := fun k => k = b) (fu_set (S := fun k => k = b) (Fu.refl _ _) _ _ _ rfl) _ _ _ rfl) _ _ _ rfl
            refine ⟨rfl, ⟨A2, n + 1, cp2, ?_, ?_, fun q => q.elim H.out.out (by omega), fun e => (hn2 e).1⟩, hF⟩
            · have := ((hk2.setCell 2 (.slice A2 (n + 1) cp2)).setCell 1 (.int .i64 0)).setCell 0 (.int .i64 0)
              simpa using this
            · refine (Op.own (U := fun k => w.heap.size ≤ k) ho2 hc2 hm2 (fun k hk => hk)).fu hF2 (fun k hk e => by omega) |>.sub (fun k hk _ => .inr hk)
          · have t0 : (a.pr == id) = false := by simpa using p0
            rw [if_neg p0]
            by_cases hm : id ∈ a.cm
            · rw [if_pos (.inr hm)]
              rw [decide_eq_true hm] at hH
              clear hm p0
              go_enter Try.func14, Try.ntmps14
              go_wp2_with fail
              refine hH.mono ?_
              rintro r w' ⟨rfl, rfl⟩
              go_wp2
              go_ret
              exact ⟨rfl, RgA.of hlt H.out (Fu.refl _ _)⟩
            · rw [if_neg (fun q => q.elim p0 hm)]
              rw [decide_eq_false hm] at hH
              clear hm p0
              go_enter Try.func14, Try.ntmps14
              go_wp2_with fail
              refine hH.mono ?_
              rintro r w' ⟨rfl, rfl⟩
              go_wp2
              go_ret
              exact ⟨rfl, RgA.of hlt H.out (Fu.refl _ _)⟩
        · rw [if_neg k3, if_neg k3]
          have s3 : (k == 3) = false := by simpa using k3
          by_cases k4 : k = 4
          · rw [if_pos k4, if_pos k4]
            subst k4
            by_cases hm : id ∈ a.cm
            · rw [if_pos hm, if_pos hm]
              rw [decide_eq_true hm] at hH
              clear hm
              go_enter Try.func14, Try.ntmps14
              go_wp2_with fail
              refine hH.mono ?_
              rintro r w' ⟨rfl, rfl⟩
              go_wp2
              go_ret
              exact ⟨rfl, RgA.of hlt H.out (Fu.refl _ _)⟩
            · rw [if_neg hm, if_neg hm]
              rw [decide_eq_false hm] at hH
              clear hm
              by_cases p0 : a.fz = id
              · have t0 : (a.fz == id) = true := by simpa using p0
                rw [if_pos p0]
                by_cases p1 : a.pr = id
                · have t1 : (a.pr == id) = true := by simpa using p1
                  rw [if_pos p1]
                  clear p0 p1
                  go_enter Try.func14, Try.ntmps14
                  go_wp2_with fail
                  refine hH.mono ?_
                  rintro r w' ⟨rfl, rfl⟩
                  go_wp2
                  go_ret
                  exact ⟨rfl, RgA.of hlt ((H.out.setF 0).setP 0) (fu_set (S := fun k => k = b) (fu_set (S := fun k => k = b) (Fu.refl _ _) _ _ _ rfl) _ _ _ rfl)⟩
                · have t1 : (a.pr == id) = false := by simpa using p1
                  rw [if_neg p1]
                  clear p0 p1
                  go_enter Try.func14, Try.ntmps14
                  go_wp2_with fail
                  refine hH.mono ?_
                  rintro r w' ⟨rfl, rfl⟩
                  go_wp2
                  go_ret
                  exact ⟨rfl, RgA.of hlt (H.out.setF 0) (fu_set (S := fun k => k = b) (Fu.refl _ _) _ _ _ rfl)⟩
              · have t0 : (a.fz == id) = false := by simpa using p0
                rw [if_neg p0]
                by_cases p1 : a.pr = id
                · have t1 : (a.pr == id) = true := by simpa using p1
                  rw [if_pos p1]
                  clear p0 p1
                  go_enter Try.func14, Try.ntmps14
                  go_wp2_with fail
                  refine hH.mono ?_
                  rintro r w' ⟨rfl, rfl⟩
                  go_wp2
                  go_ret
                  exact ⟨rfl, RgA.of hlt (H.out.setP 0) (fu_set (S := fun k => k = b) (Fu.refl _ _) _ _ _ rfl)⟩
                · have t1 : (a.pr == id) = false := by simpa using p1
                  rw [if_neg p1]
                  clear p0 p1
                  go_enter Try.func14, Try.ntmps14
                  go_wp2_with fail
                  refine hH.mono ?_
                  rintro r w' ⟨rfl, rfl⟩
                  go_wp2
                  go_ret
                  exact ⟨rfl, RgA.of hlt H.out (Fu.refl _ _)⟩
          · rw [if_neg k4, if_neg k4]
            have s4 : (k == 4) = false := by simpa using k4
            clear k1 k2 k3 k4
            go_enter Try.func14, Try.ntmps14
            go_wp2_with fail
            refine hH.mono ?_
            rintro r w' ⟨rfl, rfl⟩
            go_wp2
            go_ret
            exact ⟨rfl, RgA.of hlt H.out (Fu.refl _ _)⟩
end
end Bar
end Go.Proofs.Ytpjbeodnalgkfaa

/- Layer 15: the document's bag: Take. -/
import Derived.Test.YtallbhdfbkkjkaaNetRb
import Derived.Test.YtallbhdfbkkjkaaNetQ
set_option linter.all false
namespace Go.Proofs.Ytallbhdfbkkjkaa
open Go.RowKit
namespace Net
theorem RgX.elem {w : World} {r : Nat} {V : Nat → Prop} {A : Option Addr} {n c : Nat} {L : List (Value × Gr)} (h : RgX w r V A n c L) {i : Nat} (hi : i < n) :
    ∃ b o X m d x, A = some ⟨b, o, none⟩ ∧ L[i]? = some (.slice X m d, x) ∧ w.cell? ⟨b, o + i * 2, none⟩ = some (.slice X m d) ∧ w.cell? ⟨b, o + i * 2 + 1, none⟩ = some (.bool x.s) ∧ Bs w X m x.b ∧ m ≤ d ∧ d ≤ 9223372036854775807 ∧ m ≤ 140737488351300 ∧ (∀ a, X = some a → V a.block ∧ a.block < w.heap.size) := by
  have hil : i < L.length := by rw [← h.len]; exact hi
  have h0 := gvs_at hil (j := 0) (by omega)
  have h1 := gvs_at hil (j := 1) (by omega)
  simp only [Nat.add_zero] at h0
  obtain ⟨b, o, e, c0⟩ := h.row.2 _ _ h0
  obtain ⟨b', o', e', c1⟩ := h.row.2 _ _ h1
  rw [e] at e'
  injection e' with e'
  injection e' with e1 e2
  subst e1 e2
  obtain ⟨X, m, d, ex, hb, k1, k2, k3, k4⟩ := h.data _ (List.getElem_mem hil)
  rw [ex] at c0
  refine ⟨b, o, X, m, d, L[i].2, e, ?_, c0, by rw [Nat.add_assoc]; exact c1, hb, k1, k2, k3, k4⟩
  rw [List.getElem?_eq_getElem hil, ← ex]
def RTakA (r : Nat) (V : Nat → Prop) (l : List Gr) (i : Int) (w w' : World) (e : Ending) : Prop :=
  ∃ X m d, e = .returned (.tuple #[.slice X m d, .bool (takG l i).s, .int .i64 (takE l i)]) ∧ Bs w' X m (takG l i).b ∧ m ≤ d ∧ d ≤ 9223372036854775807 ∧ (X = none → m = 0) ∧ (∀ a, X = some a → V a.block ∧ a.block < w.heap.size) ∧ Rg w' r (fun k => V k ∨ w.heap.size ≤ k) (takS l i) ∧ Fu (fun k => k = r) w w'
section
variable (w : World)
set_option maxRecDepth 100000 in
set_option maxHeartbeats 8000000 in
theorem rtake_ (r : Nat) (V : Nat → Prop) (l : List Gr) (h : Rg w r V l) (hV : ∀ k, V k → k < w.heap.size) (hVr : ¬ V r) (i : Int) :
    Calls Try.prog 21 #[.pointer (some ⟨r, 0, none⟩), .int .i64 i] w fun e w' => RTakA r V l i w w' e := by
  obtain ⟨i0, hi0', hz0, hz1, hz2⟩ := rgram_info
  have Hz := Lib.hid hz2
  clear hz2
  obtain ⟨A, n, c, L, rfl, hX⟩ := h
  have hRh := rhas_ w r V A n c L hX i
  by_cases hi : hasB (L.map (·.2)) i = true
  · obtain ⟨t1, t2, t3⟩ := take_of hi
    rw [hi] at hRh
    have hi2 := has_iff.1 hi
    rw [List.length_map, ← hX.len] at hi2
    obtain ⟨k, rfl⟩ := Int.eq_ofNat_of_zero_le hi2.1
    have hk : k < n := by omega
    obtain ⟨b, o, X, m, d, x, rfl, hLk, e0, e1, hbx, hmd, hd, hmb, hVX⟩ := hX.elem hk
    have hil : k < L.length := by rw [← hX.len]; exact hk
    rw [getG_map hil, show L[k].2 = x by rw [List.getElem?_eq_getElem hil] at hLk; injection hLk with hLk; rw [hLk]] at t2
    rw [Int.toNat_natCast, ← List.eraseIdx_eq_take_drop_succ, erase_map] at t3
    have HT := Lib.hid (show takE (L.map (·.2)) (k : Int) = 0 ∧ takG (L.map (·.2)) (k : Int) = x ∧ takS (L.map (·.2)) (k : Int) = (L.eraseIdx k).map (·.2) from ⟨t1, t2, t3⟩)
    have c0 := hX.blk.cell (j := 0) (u := .slice (some ⟨b, o, none⟩) n c) rfl
    have hnc := hX.le
    have hcc := hX.cap
    have hn256 := hX.few
    have hrl := hX.blk.lt
    have hbV := hX.rowV _ rfl
    simp only at hbV
    -- the copy of the element
    have hba : Below w.heap.size w (w.alloc (.cells #[.slice X m d, .bool x.s] 91)) := (Below.refl _ _).alloc (Nat.le_refl _) _
    have hm0 : Blk (w.alloc (.cells #[.slice X m d, .bool x.s] 91)) w.heap.size 91 #[.slice X m d, .bool x.s] := Blk.new w _ _ rfl
    have hXa := hX.keep hba
    have c0a := hXa.blk.cell (j := 0) (u := .slice (some ⟨b, o, none⟩) n c) rfl
    have hrow := hXa.row
    have hlen := Lib.hid hX.len
    have hrow1 : Rd (w.alloc (.cells #[.slice X m d, .bool x.s] 91)) (some ⟨b, o, none⟩) 2 k (gvs (L.take k)) := by have := hrow.take (k := k) (by omega); rwa [gvs_take] at this
    have hrow2 := hrow.drop (k := k + 1) (cap := c) (by omega) hnc
    rw [gvs_drop] at hrow2
    have hone1 : ∀ u ∈ gvs (L.take k), u.oneCell' = true := gvs_one (fun p hp => hX.forms p (List.mem_of_mem_take hp))
    have hone2 : ∀ u ∈ gvs (L.drop (k + 1)), u.oneCell' = true := gvs_one (fun p hp => hX.forms p (List.mem_of_mem_drop hp))
    have hsa : (w.alloc (.cells #[.slice X m d, .bool x.s] 91)).heap.size = w.heap.size + 1 := by simp
    have hbxa := hbx.below hba
    have HXa := Lib.hid hXa
    have HTX := Lib.hid hX
    have HIL := Lib.hid hil
    have k1 : (k : Int) < (n : Int) := by omega
    have k2 : (0 : Int) ≤ (k : Int) := by omega
    have k3 : k ≤ c := by omega
    have k4 : (k : Int) ≤ (c : Int) := by omega
    have k5 : (k : Int) + 1 ≤ (n : Int) := by omega
    have k6 : (0 : Int) ≤ (k : Int) + 1 := by omega
    have k7 : ((k : Int) + 1).toNat = k + 1 := by omega
    have k8 : k + 1 ≤ c := by omega
    have k9 : k + 1 ≤ n := by omega
    have k10 : (k : Int) + 1 ≤ (c : Int) := by omega
    have e8 : IntKind.i64.wrap ((k : Int) + 1) = (k : Int) + 1 := IntWalk.i64_in _ (by omega)
    have hcs : c = k + 1 ∨ ¬ c = k + 1 := Decidable.em _
    clear hi hi2 t1 t2 t3 hX hXa hrow hbx hLk hil
    rcases hcs with hce | hce
    · rw [if_pos hce] at hrow2
      obtain rfl : n = k + 1 := by omega
      subst hce
      have k4' : (k : Int) ≤ (k : Int) + 1 := by omega
      have k3' : k ≤ k + 1 := by omega
      have Hdrop := Lib.hid (show L.drop (k + 1) = [] from List.drop_of_length_le (by have := hlen.out; omega))
      go_enter Try.func21, Try.ntmps21
      go_wp2_with fail
      refine hRh.mono ?_
      rintro e w' ⟨rfl, rfl⟩
      go_wp2_with fail
      obtain ⟨wa, hwa⟩ : ∃ wa, w.alloc (.cells #[.slice X m d, .bool x.s] 91) = wa := ⟨_, rfl⟩
      rw [hwa] at hba hm0 c0a hrow1 hrow2 hsa hbxa HXa ⊢
      have HBA := Lib.hid hba
      clear hwa
      go_region_law (first
        | (refine step_app _ rfl (.const (.slice none 0 0)) (.tmp 25) _ rfl wa.heap.size 91 i0 _ 2 32 Try.underlying43 hi0' hz0 hz1 Hz.out rfl (by omega) (.slice none 0 0) 0 [] rfl (own_nil _ _ _ _) (some ⟨b, o, none⟩) k (k + 1) (gvs (L.take k)) rfl (fun e => by cases e) (show Rd wa.drew _ 2 k _ from hrow1) hone1 (by unfold maxLen; omega) (by omega) (Nat.le_refl _) ?_
           intro vA wA hownA hgA hatA
           obtain ⟨AA, cA, rfl, hcA, hmA, haA⟩ := own_form hownA
           simp only [Nat.zero_add, List.nil_append] at hownA hcA haA ⊢
           have hgA' : wa.grownBy wA none := undrew hgA
           have hsA : wa.heap.size ≤ wA.heap.size := hgA'.size
           have c0A : wA.cell? ⟨r, 0, none⟩ = some (.slice (some ⟨b, o, none⟩) (k + 1) (k + 1)) := hgA'.cell c0a (fun e => by cases e)
           have hrow2A := hsA)
        | (refine step_app _ rfl (.tmp 26) (.tmp 33) _ rfl wa.heap.size 91 i0 _ 2 32 Try.underlying43 hi0' hz0 hz1 Hz.out rfl (by omega) (.slice AA k cA) k (gvs (L.take k)) rfl hownA (some ⟨b, o, none⟩) 0 0 [] rfl (fun e => by cases e) Rd.nil (by simp) (by unfold maxLen; omega) (by omega) hsA ?_
           intro vD wD hownD hgD hatD
           simp only [Nat.add_zero, List.append_nil] at hownD
           obtain ⟨AD, cD, rfl, hcD, hmD, haD⟩ := own_form hownD
           have hgD' : wa.grownBy wD none := grown_step hgA' hgD (fun j e => .inl (hownA.lt j e).1)
           have kD : wD.cell? ⟨r, 0, none⟩ = some (.slice (some ⟨b, o, none⟩) (k + 1) (k + 1)) := hgD'.cell c0a (fun e => by cases e)
           have fD := (HXa.out.blk.grown hgD' (fun e => by cases e)).free 0))
      all_goals (
        have hput := HXa.out.put (V' := fun k => V k ∨ w.heap.size ≤ k) hgD' (v := .slice AD (k) cD) (n' := k) (L' := L.eraseIdx k) (by rw [List.eraseIdx_eq_take_drop_succ, Hdrop.out, List.append_nil]; exact hownD) (Nat.le_refl _) (by rw [List.length_eraseIdx_of_lt HIL.out, ← hlen.out]; omega) (by omega) (fun j e => .inl e) (fun j e => .inr (by omega)) (fun p hp => .inl (List.mem_of_mem_eraseIdx hp)) hVr
        have hset := grown_setCell wD ⟨r, 0, none⟩ (.slice AD (k) cD)
        have hmF := (hm0.grown hgD' (fun e => by cases e)).grown hset (fun e => by injection e with e; simp only at e; omega)
        have m0 := hmF.cell (j := 0) (u := .slice X m d) rfl
        have m1 := hmF.cell (j := 1) (u := .bool x.s) rfl
        have hbF : Bs (wD.setCell ⟨r, 0, none⟩ (.slice AD (k) cD)) X m x.b := (hbxa.grown hgD' (fun a ha e => by cases e)).grown hset (fun a ha e => by injection e with e; exact hVr ((show a.block = r from e) ▸ (hVX a ha).1))
        have HP := Lib.hid hput
        have HBF := Lib.hid hbF
        clear hput hbF hset hmF hownA hgA' hgD' hownD hgD hatD hrow1 hrow2 hone1 hone2 hm0 hba hrow2A kD fD c0A c0a
        go_wp2_with fail
        go_quiet (fail)
        go_wp2
        go_ret3
        unfold RTakA
        rw [HT.out.1, HT.out.2.1, HT.out.2.2]
        refine ⟨X, m, d, rfl, HBF.out, hmd, hd, (fun e => HBF.out.zero e), hVX, HP.out.1.drewN _, (Fu.ofBelow HBA.out).then (HP.out.2.drewN _) (fun j e => .inl e)⟩)
    · rw [if_neg hce] at hrow2
      simp only [Option.map_some, add_plain] at hrow2
      go_enter Try.func21, Try.ntmps21
      go_wp2_with fail
      refine hRh.mono ?_
      rintro e w' ⟨rfl, rfl⟩
      go_wp2_with fail
      obtain ⟨wa, hwa⟩ : ∃ wa, w.alloc (.cells #[.slice X m d, .bool x.s] 91) = wa := ⟨_, rfl⟩
      rw [hwa] at hba hm0 c0a hrow1 hrow2 hsa hbxa HXa ⊢
      have HBA := Lib.hid hba
      clear hwa
      go_region_law (first
        | (refine step_app _ rfl (.const (.slice none 0 0)) (.tmp 25) _ rfl wa.heap.size 91 i0 _ 2 32 Try.underlying43 hi0' hz0 hz1 Hz.out rfl (by omega) (.slice none 0 0) 0 [] rfl (own_nil _ _ _ _) (some ⟨b, o, none⟩) k c (gvs (L.take k)) rfl (fun e => by cases e) (show Rd wa.drew _ 2 k _ from hrow1) hone1 (by unfold maxLen; omega) (by omega) (Nat.le_refl _) ?_
           intro vA wA hownA hgA hatA
           obtain ⟨AA, cA, rfl, hcA, hmA, haA⟩ := own_form hownA
           simp only [Nat.zero_add, List.nil_append] at hownA hcA haA ⊢
           have hgA' : wa.grownBy wA none := undrew hgA
           have hsA : wa.heap.size ≤ wA.heap.size := hgA'.size
           have c0A : wA.cell? ⟨r, 0, none⟩ = some (.slice (some ⟨b, o, none⟩) n c) := hgA'.cell c0a (fun e => by cases e)
           have hrow2A := rd_keep hrow2 hgA')
        | (refine step_app _ rfl (.tmp 26) (.tmp 33) _ rfl wa.heap.size 91 i0 _ 2 32 Try.underlying43 hi0' hz0 hz1 Hz.out rfl (by omega) (.slice AA k cA) k (gvs (L.take k)) rfl hownA (some ⟨b, o + (k + 1) * 2, none⟩) (n - (k + 1)) (c - (k + 1)) (gvs (L.drop (k + 1))) rfl (fun e => by cases e) hrow2A hone2 (by unfold maxLen; omega) (by omega) hsA ?_
           intro vD wD hownD hgD hatD
           obtain ⟨AD, cD, rfl, hcD, hmD, haD⟩ := own_form hownD
           have hgD' : wa.grownBy wD none := grown_step hgA' hgD (fun j e => .inl (hownA.lt j e).1)
           have kD : wD.cell? ⟨r, 0, none⟩ = some (.slice (some ⟨b, o, none⟩) n c) := hgD'.cell c0a (fun e => by cases e)
           have fD := (HXa.out.blk.grown hgD' (fun e => by cases e)).free 0))
      all_goals (
        have hput := HXa.out.put (V' := fun k => V k ∨ w.heap.size ≤ k) hgD' (v := .slice AD (k + (n - (k + 1))) cD) (n' := k + (n - (k + 1))) (L' := L.eraseIdx k) (by rw [List.eraseIdx_eq_take_drop_succ, gvs_app]; exact hownD) (Nat.le_refl _) (by rw [List.length_eraseIdx_of_lt HIL.out, ← hlen.out]; omega) (by omega) (fun j e => .inl e) (fun j e => .inr (by omega)) (fun p hp => .inl (List.mem_of_mem_eraseIdx hp)) hVr
        have hset := grown_setCell wD ⟨r, 0, none⟩ (.slice AD (k + (n - (k + 1))) cD)
        have hmF := (hm0.grown hgD' (fun e => by cases e)).grown hset (fun e => by injection e with e; simp only at e; omega)
        have m0 := hmF.cell (j := 0) (u := .slice X m d) rfl
        have m1 := hmF.cell (j := 1) (u := .bool x.s) rfl
        have hbF : Bs (wD.setCell ⟨r, 0, none⟩ (.slice AD (k + (n - (k + 1))) cD)) X m x.b := (hbxa.grown hgD' (fun a ha e => by cases e)).grown hset (fun a ha e => by injection e with e; exact hVr ((show a.block = r from e) ▸ (hVX a ha).1))
        have HP := Lib.hid hput
        have HBF := Lib.hid hbF
        clear hput hbF hset hmF hownA hgA' hgD' hownD hgD hatD hrow1 hrow2 hone1 hone2 hm0 hba hrow2A kD fD c0A c0a
        go_wp2_with fail
        go_quiet (fail)
        go_wp2
        go_ret3
        unfold RTakA
        rw [HT.out.1, HT.out.2.1, HT.out.2.2]
        refine ⟨X, m, d, rfl, HBF.out, hmd, hd, (fun e => HBF.out.zero e), hVX, HP.out.1.drewN _, (Fu.ofBelow HBA.out).then (HP.out.2.drewN _) (fun j e => .inl e)⟩)
  · have hi : hasB (L.map (·.2)) i = false := by simpa using hi
    obtain ⟨t1, t2, t3⟩ := take_no hi
    rw [hi] at hRh
    have HT := Lib.hid (show takE (L.map (·.2)) i = 9 ∧ takG (L.map (·.2)) i = zG ∧ takS (L.map (·.2)) i = L.map (·.2) from ⟨t1, t2, t3⟩)
    clear t1 t2 t3 hi
    go_enter Try.func21, Try.ntmps21
    go_wp2_with fail
    refine hRh.mono ?_
    rintro e w' ⟨rfl, rfl⟩
    go_wp2
    go_ret3
    unfold RTakA
    rw [HT.out.1, HT.out.2.1, HT.out.2.2]
    exact ⟨none, 0, 0, rfl, Bs.nil, Nat.le_refl _, by omega, fun _ => rfl, (fun a e => by cases e), ⟨A, n, c, L, rfl, hX.sub (fun k hk _ => .inl hk)⟩, Fu.refl _ _⟩
end
end Net
end Go.Proofs.Ytallbhdfbkkjkaa

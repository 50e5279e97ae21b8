/- Layer 15: the document's bag: Turn. -/
import Derived.Test.YtallbhdfbkkjkaaNetRc
import Derived.Test.YtallbhdfbkkjkaaNetT
set_option linter.all false
namespace Go.Proofs.Ytallbhdfbkkjkaa
open Go.RowKit
namespace Net
theorem gvs_set {L : List (Value × Gr)} {k : Nat} (hk : k < L.length) (v : Value) (d : List UInt8) (s : Bool) : ((gvs L).set (k * 2) v).set (k * 2 + 1) (.bool s) = gvs (L.set k (v, ⟨d, s⟩)) := by
  have hL : L = L.take k ++ L[k] :: L.drop (k + 1) := by rw [← List.drop_eq_getElem_cons hk, List.take_append_drop]
  have hl : (L.take k).length = k := by rw [List.length_take]; omega
  have e1 : L.set k (v, ⟨d, s⟩) = L.take k ++ (v, ⟨d, s⟩) :: L.drop (k + 1) := by rw [List.set_eq_take_append_cons_drop, if_pos hk]
  rw [e1]
  conv => lhs; rw [hL]
  rw [gvs_app, gvs_cons, gvs_app, gvs_cons, List.set_append_right _ _ (by rw [gvs_len]; omega), gvs_len, hl, Nat.sub_self, List.set_append_right _ _ (by rw [gvs_len]; omega), gvs_len, hl, Nat.add_sub_cancel_left]
  rfl
section
variable (w : World)
set_option maxRecDepth 100000 in
set_option maxHeartbeats 8000000 in
theorem rturn_ (r : Nat) (V : Nat → Prop) (l : List Gr) (h : Rg w r V l) (hV : ∀ k, V k → k < w.heap.size) (hVr : ¬ V r) (i z : Int) (y : UInt8) (hz : -9223372036854775808 ≤ z ∧ z ≤ 9223372036854775807) :
    Calls Try.prog 25 #[.pointer (some ⟨r, 0, none⟩), .int .i64 i, .int .i64 z, .int .u8 (y.toNat : Int)] w fun e w' => e = .returned (.int .i64 (turE l i z y)) ∧ Rg w' r (fun k => V k ∨ w.heap.size ≤ k) (turS l i z y) ∧ Fu (fun k => k = r) w w' := by
  obtain ⟨i0, hi0', hz0, hz1, hz2⟩ := rgram_info
  have Hz := Lib.hid hz2
  obtain ⟨i1, hi1', hy0', hy1', hy2'⟩ := info_parts info_u8
  have Hy := Lib.hid hy2'
  clear hz2 hy2'
  obtain ⟨A, n, c, L, rfl, hX⟩ := h
  have hRh := rhas_ w r V A n c L hX i
  have c0 := hX.blk.cell (j := 0) (u := .slice A n c) rfl
  have cf := hX.blk.free 0
  by_cases hi : hasB (L.map (·.2)) i = true
  · have t1 := turn_at (z := z) (y := y) hi
    rw [hi] at hRh
    have hi2 := has_iff.1 hi
    rw [List.length_map, ← hX.len] at hi2
    obtain ⟨k, rfl⟩ := Int.eq_ofNat_of_zero_le hi2.1
    have hk : k < n := by omega
    obtain ⟨b, o, X, m, d, x, rfl, hLk, e0, e1, hbx, hmd, hd, hmb, hVX⟩ := hX.elem hk
    have hil : k < L.length := by rw [← hX.len]; exact hk
    have hLk2 : L[k] = (.slice X m d, x) := by rw [List.getElem?_eq_getElem hil] at hLk; injection hLk
    rw [getG_map hil, hLk2] at t1
    obtain ⟨dd, xs⟩ := x
    simp only at t1 e1 hbx
    have hdm := hbx.len
    have k1 : (k : Int) < (n : Int) := by omega
    have k2 : (0 : Int) ≤ (k : Int) := by omega
    have hbX : ∀ e, turE (L.map (·.2)) (k : Int) z y = e → ¬ e = 0 → Rg w r (fun k => V k ∨ w.heap.size ≤ k) (turS (L.map (·.2)) (k : Int) z y) := fun e he h0 => by
      rw [turn_no (by rw [he]; exact h0)]
      exact ⟨_, n, c, L, rfl, hX.sub (fun k hk _ => .inl hk)⟩
    rw [← hdm] at t1
    have hy1 := y.toNat_lt
    cases xs with
    | true =>
      have HT := Lib.hid (show turE (L.map (·.2)) (k : Int) z y = 10 by rw [t1]; rfl)
      have HBX := Lib.hid (hbX 10 HT.out (by decide))
      clear t1 hi hi2 hbX hX hdm hbx hLk hLk2 hil
      go_enter Try.func25, Try.ntmps25
      go_wp2_with fail
      refine hRh.mono ?_
      rintro e w' ⟨rfl, rfl⟩
      go_wp2
      go_ret
      rw [HT.out]
      exact ⟨rfl, HBX.out, Fu.refl _ _⟩
    | false =>
      by_cases h0 : m = 0
      · have HT := Lib.hid (show turE (L.map (·.2)) (k : Int) z y = 1 by rw [t1, h0]; simp)
        have HBX := Lib.hid (hbX 1 HT.out (by decide))
        subst h0
        clear t1 hi hi2 hbX hX hdm hbx hLk hLk2 hil
        go_enter Try.func25, Try.ntmps25
        go_wp2_with fail
        refine hRh.mono ?_
        rintro e w' ⟨rfl, rfl⟩
        go_wp2
        go_ret
        rw [HT.out]
        exact ⟨rfl, HBX.out, Fu.refl _ _⟩
      · have n0 : ¬ (m : Int) = 0 := by omega
        have n0' : ((m : Int) == 0) = false := by simpa using n0
        by_cases h1 : y = 0
        · have HT := Lib.hid (show turE (L.map (·.2)) (k : Int) z y = 1 by rw [t1, h1]; simp)
          have HBX := Lib.hid (hbX 1 HT.out (by decide))
          subst h1
          clear t1 hi hi2 hbX hX hdm hbx hLk hLk2 hil
          go_enter Try.func25, Try.ntmps25
          go_wp2_with fail
          refine hRh.mono ?_
          rintro e w' ⟨rfl, rfl⟩
          go_wp2
          go_ret
          rw [HT.out]
          exact ⟨rfl, HBX.out, Fu.refl _ _⟩
        · have HT := Lib.hid (show turE (L.map (·.2)) (k : Int) z y = 0 by rw [t1]; simp [h0, h1])
          have y0 : ¬ (y.toNat : Int) = 0 := by
            intro e
            exact h1 (UInt8.toNat_inj.1 (by simpa using e))
          have y0' : ((y.toNat : Int) == 0) = false := by simpa using y0
          have hatl := atN_lt (n := m) (by omega) z
          have tb := tmod_bounds z m (by omega)
          obtain ⟨a, ha⟩ : ∃ a, atN m z = a := ⟨_, rfl⟩
          have hat : (z.tmod (m : Int) + m).tmod (m : Int) = (a : Int) := by
            rw [← ha]; unfold atN
            have h2 := Int.tmod_nonneg (m : Int) (show 0 ≤ z.tmod m + m by omega)
            omega
          rw [ha] at hatl
          have had : a < dd.length := by omega
          obtain ⟨t, ht⟩ : ∃ t, z.tmod (m : Int) = t := ⟨_, rfl⟩
          rw [ht] at tb hat
          have w1 : IntKind.i64.wrap t = t := IntWalk.i64_in _ (by omega)
          have w2' : wrap64 (t + (m : Int)) = t + (m : Int) := IntWalk.wrap64_in _ (by omega)
          have a1 : (a : Int) < (m : Int) := by omega
          have a2 : (0 : Int) ≤ (a : Int) := by omega
          have Ht := Lib.hid ht
          have hrow := hX.row
          have hone := gvs_one hX.forms
          have hn256 := hX.few
          have hrl := hX.blk.lt
          have HX := Lib.hid hX
          have HIL := Lib.hid hil
          have HLK := Lib.hid hLk
          obtain ⟨old, hold⟩ : ∃ old, dd[a] = old := ⟨_, rfl⟩
          have hold2 : old.toNat < 256 := UInt8.toNat_lt _
          have hxr := u8_xor_nat _ _ hold2 (show y.toNat < 256 by omega)
          have Hold := Lib.hid (show dd[a]? = some old by rw [List.getElem?_eq_getElem had, hold])
          have Hd' := Lib.hid (show turnB dd z y = dd.set a (old ^^^ y) by
            unfold turnB; rw [← hdm, ha, List.getD, List.getElem?_eq_getElem had, hold]; rfl)
          have Hdm := Lib.hid hdm
          have Ha := Lib.hid ha
          clear t1 hi hi2 hbX hX hdm hLk hLk2 hil ha hold had
          go_enter Try.func25, Try.ntmps25
          go_wp2_with fail
          refine hRh.mono ?_
          rintro e w' ⟨rfl, rfl⟩
          go_wp2_with (first
            | (at_builtin
               refine wpList_app _ rfl (.const (.slice none 0 0)) (.tmp 46) _ rfl w.heap.size 5 i1 _ 1 1 Try.underlying22 hi1' hy0' hy1' Hy.out rfl Nat.one_pos (.slice none 0 0) 0 [] rfl (own_nil _ _ _ _) X m d (bvs dd) rfl (fun h => hbx.zero h) hbx (bvs_one dd) (by unfold maxLen; omega) (by omega) (Nat.le_refl _) ?_
               intro v5 w5 hown5 hg5 hat5
               rw [Nat.zero_add, List.nil_append] at hown5
               obtain ⟨g5, c5, rfl, hg5b, hg5l⟩ := hown5.form (by omega)
               have q0 : w5.cell? ⟨g5, a, none⟩ = some (.int .u8 (old.toNat : Int)) := by
                 rw [hown5.cellAt a (by omega)]
                 simp only [bvs, bv, List.getElem?_map, Hold.out, Option.map_some]
               have q1 := hown5.frozenAt a
               obtain ⟨hst, hgst⟩ := hown5.stored a (.int .u8 ((old.toNat ^^^ y.toNat : Nat) : Int))
               have hset : (bvs dd).set a (.int .u8 ((old.toNat ^^^ y.toNat : Nat) : Int)) = bvs (dd.set a (old ^^^ y)) := by
                 simp only [bvs, List.map_set, bv, UInt8.toNat_xor]
               rw [hset] at hst
               have hg6 : w.grownBy (w5.setCell ⟨g5, a, none⟩ (.int .u8 ((old.toNat ^^^ y.toNat : Nat) : Int))) none := grown_step hg5 hgst (fun j e => by injection e with e; exact .inl (by omega))
               have c06 := hg6.cell c0 (fun e => by cases e)
               have hrow6 := rd_keep hrow hg6
               have hs6 := hg6.size
               have HST := Lib.hid hst
               simp only [Nat.zero_add]
               clear hst hset hgst hown5 hat5 hg5)
            | (at_builtin
               refine wpList_app _ rfl (.const (.slice none 0 0)) (.tmp 64) _ rfl w.heap.size 91 i0 _ 2 32 Try.underlying43 hi0' hz0 hz1 Hz.out rfl (by omega) (.slice none 0 0) 0 [] rfl (own_nil _ _ _ _) (some ⟨b, o, none⟩) n c (gvs L) rfl (fun e => by cases e) hrow6 hone (by unfold maxLen; omega) (by omega) hs6 ?_
               intro v7 w7 hown7 hg7 hat7
               rw [Nat.zero_add, List.nil_append] at hown7
               obtain ⟨g7, c7, rfl, hg7b, hg7l⟩ := hown7.form (by omega)
               have hst7 := own_grown HST.out hg7 (fun j e q => by cases q)
               have hg7' : w.grownBy w7 none := hg6.trans hg7
               have u0 := hown7.frozenAt (k * 2)
               have u1 := hown7.frozenAt (k * 2 + 1)
               have hxs : ∀ j, j < 2 → ∃ u, w7.cell? ⟨g7, k * 2 + j, none⟩ = some u := fun j hj => by
                 have hjl : k * 2 + j < (gvs L).length := by have := hown7.1; omega
                 exact ⟨_, by rw [hown7.cellAt (k * 2 + j) (by omega), List.getElem?_eq_getElem hjl]⟩
               obtain ⟨z0, o0⟩ := hxs 0 (by omega)
               obtain ⟨z1, o1⟩ := hxs 1 (by omega)
               rw [Nat.add_zero] at o0
               have c07 := hg7'.cell c0 (fun e => by cases e)
               have cf7 := (HX.out.blk.grown hg7' (fun e => by cases e)).free 0
               simp only [Nat.zero_add]
               clear hat7 hxs))
          have hG0 := grown_setCell w7 ⟨g7, k * 2, none⟩ (.slice (some ⟨g5, 0, none⟩) m c5)
          have hG1 := grown_setCell (w7.setCell ⟨g7, k * 2, none⟩ (.slice (some ⟨g5, 0, none⟩) m c5)) ⟨g7, k * 2 + 1, none⟩ (.bool true)
          have hG2 := grown_step (grown_step hg7' hG0 (fun j e => by injection e with e; exact .inl (by simp only at e; omega))) hG1 (fun j e => by injection e with e; exact .inl (by simp only at e; omega))
          have hby := own_grown (own_grown hst7 hG0 (fun k' hk' e => own_ne hst7 hown7 (by decide) (g := k') hk' e.symm)) hG1 (fun k' hk' e => own_ne hst7 hown7 (by decide) (g := k') hk' e.symm)
          have hrw := row_cell (row_cell hown7 (.slice (some ⟨g5, 0, none⟩) m c5) (o := k * 2) (by omega)) (.bool true) (o := k * 2 + 1) (by omega)
          rw [gvs_set HIL.out (.slice (some ⟨g5, 0, none⟩) m c5) (dd.set a (old ^^^ y)) true] at hrw
          have hl5 := hby.lt g5 rfl
          have hfrm := own_form hby
          have hput := HX.out.put (V' := fun k => V k ∨ w.heap.size ≤ k) hG2 (v := .slice (some ⟨g7, 0, none⟩) n c7) (n' := n) (L' := L.set k (.slice (some ⟨g5, 0, none⟩) m c5, (⟨dd.set a (old ^^^ y), true⟩ : Gr))) hrw (Nat.le_refl _) (by rw [List.length_set]; exact HX.out.len) (by omega) (fun j e => .inl e) (fun j e => .inr e) (fun p hp => by
            rcases List.mem_or_eq_of_mem_set hp with hp | rfl
            · exact .inl hp
            · obtain ⟨A', c', e, q1, q2, q3⟩ := hfrm
              injection e with e1 e2 e3
              refine .inr ⟨_, _, _, rfl, bs_own hby, by rw [e3]; exact q1, by rw [e3]; exact Nat.le_trans q2 (by unfold maxLen; omega), by omega, fun a' ea => ?_⟩
              injection ea with ea
              subst ea
              exact ⟨.inr hl5.1, by simp only; omega, hl5.2⟩) hVr
          have HP := Lib.hid hput
          clear hput hrw hby
          go_ret
          rw [HT.out]
          refine ⟨rfl, ?_, HP.out.2⟩
          have h := HP.out.1
          unfold turS
          rw [if_pos HT.out, Int.toNat_natCast, getG_map HIL.out]
          have hp : L[k]'HIL.out = (.slice X m d, (⟨dd, false⟩ : Gr)) := by
            have q := HLK.out
            rw [List.getElem?_eq_getElem HIL.out] at q
            injection q
          rw [hp]
          simp only
          rw [Hd'.out]
          rw [List.map_set] at h
          exact h
  · have hi : hasB (L.map (·.2)) i = false := by simpa using hi
    rw [hi] at hRh
    have HT := Lib.hid (turn_none (z := z) (y := y) hi)
    have HS := Lib.hid (turn_no (l := L.map (·.2)) (i := i) (z := z) (y := y) (by rw [HT.out]; decide))
    clear hi
    go_enter Try.func25, Try.ntmps25
    go_wp2_with fail
    refine hRh.mono ?_
    rintro e w' ⟨rfl, rfl⟩
    go_wp2
    go_ret
    rw [HT.out, HS.out]
    exact ⟨rfl, ⟨A, n, c, L, rfl, hX.sub (fun k hk _ => .inl hk)⟩, Fu.refl _ _⟩
end
end Net
end Go.Proofs.Ytallbhdfbkkjkaa

/- Layer 12: Delete. -/
import Derived.Test.YtfcfffilfmbpeaaShaJ
set_option linter.all false
namespace Go.Proofs.Ytfcfffilfmbpeaa
open Go.RowKit Go.Maps
namespace Sha
open Blo (vol fun_ GotN AnsN Dat FitB)

theorem ivs_at {l : List Int} {k : Nat} {x : Int} (h : l[k]? = some x) : (ivs l)[k]? = some (.int .i64 x) := by unfold ivs; rw [List.getElem?_map, h]; rfl
theorem rd_iv {w : World} {A : Option Addr} {n : Nat} {l : List Int} (h : Rd w A 1 n (ivs l)) {k : Nat} (hk : k < n) : ∃ b o x, A = some ⟨b, o, none⟩ ∧ l[k]? = some x ∧ w.cell? ⟨b, o + k, none⟩ = some (.int .i64 x) := by
  have hl : k < l.length := by have := h.1; rw [ivs_length] at this; omega
  obtain ⟨b, o, e, hc⟩ := h.2 k _ (ivs_at (List.getElem?_eq_getElem hl))
  exact ⟨b, o, _, e, List.getElem?_eq_getElem hl, hc⟩
section
variable (w : World)
set_option maxRecDepth 100000 in
theorem isid_ (x id : Int) (V : Nat) (hV : w.cell? ⟨V, 0, none⟩ = some (.int .i64 id)) : Calls Try.prog 49 #[.int .i64 x, .pointer (some ⟨V, 0, none⟩)] w fun e w' => e = .returned (.bool (x == id)) ∧ w = w' := by
  go_enter Try.func49, Try.ntmps49
  go_wp2
  go_ret
  exact ⟨rfl, rfl⟩
set_option maxRecDepth 100000 in
set_option maxHeartbeats 1000000 in
theorem index_ (A : Option Addr) (n c : Nat) (l1 l2 : List Int) (id : Int) (V : Nat) (hr : Rd w A 1 n (ivs (l1 ++ id :: l2))) (hn : n ≤ 9223372036854775807) (h1 : ∀ x ∈ l1, x ≠ id) (hV : w.cell? ⟨V, 0, none⟩ = some (.int .i64 id)) :
    Calls Try.prog 63 #[.slice A n c, .func (.func 49) #[] #[.pointer (some ⟨V, 0, none⟩)]] w fun e w' => e = .returned (.int .i64 (l1.length : Int)) ∧ w = w' := by
  have hnl : n = l1.length + (l2.length + 1) := by have := hr.1; rw [ivs_length] at this; simp at this; omega
  obtain ⟨m1, hm1⟩ : ∃ m1, l1.length = m1 := ⟨_, rfl⟩
  rw [hm1] at hnl ⊢
  have Hm1 := Lib.hid hm1
  have hlt1 : m1 < n := by omega
  clear hm1 hnl
  go_enter Try.func63, Try.ntmps63
  go_wp2_with fail
  go_loopw [8] (fun iv wr => ∃ i : Nat, i ≤ m1 ∧ iv = .int .i64 (i : Int) ∧ wr = w) (fun iv _ => n - (intOf iv).toNat)
  case atStart => exact ⟨0, Nat.zero_le _, rfl, rfl⟩
  case round =>
    obtain ⟨i, hi, rfl, rfl⟩ := hrel
    have hin : i < n := by omega
    have hil : (i : Int) < (n : Int) := by omega
    have hi0 : (0 : Int) ≤ (i : Int) := by omega
    obtain ⟨b, o, x, rfl, hx, hc⟩ := rd_iv hr hin
    by_cases he : i = m1
    · have hxid : x = id := by
        subst he
        rw [← Hm1.out, List.getElem?_append_right (Nat.le_refl _), Nat.sub_self] at hx
        simpa using hx.symm
      subst hxid
      subst he
      have hbe : (x == x) = true := by simp
      clear hr hx
      go_wp2_with fail
      refine (isid_ _ x x V hV).mono ?_
      rintro e w2 ⟨rfl, rfl⟩
      go_wp2
      go_ret
      exact ⟨rfl, rfl⟩
    · have hlt : i < l1.length := by rw [Hm1.out]; omega
      have hxid : x ≠ id := by
        rw [List.getElem?_append_left hlt] at hx
        exact h1 x (List.mem_of_getElem? hx)
      have hbe : (x == id) = false := by simp [hxid]
      clear hr hx hxid
      go_wp2_with fail
      refine (isid_ _ x id V hV).mono ?_
      rw [hbe]
      rintro e w2 ⟨rfl, rfl⟩
      go_wp2
      go_roundw
      case rel => exact ⟨i + 1, by omega, by go_num, by first | rfl | trivial⟩
      case measure => simp [intOf]; omega
theorem own_short {w : World} {B g n c m : Nat} {e : TypeId} {xs : List Value} (h : w.ownsRow B e 1 (.slice (some ⟨g, 0, none⟩) n c) n xs) (hm : m ≤ n) : w.ownsRow B e 1 (.slice (some ⟨g, 0, none⟩) m c) m (xs.take m) := by
  have hl := h.1
  refine ⟨by rw [List.length_take]; omega, ?_⟩
  rcases h.2 with ⟨e1, _⟩ | ⟨g', cap, cur, e1, hg, hh, hnc, hcm, hcs, hx⟩
  · cases e1
  · injection e1 with e1 _ e3
    subst e3
    refine .inr ⟨g', c, cur, by rw [e1], hg, hh, by omega, hcm, hcs, ?_⟩
    rw [← hx, List.take_take]
    congr 1
    omega
set_option maxRecDepth 100000 in
set_option maxHeartbeats 2000000 in
theorem delfunc_ (B : Nat) (A : Option Addr) (n c : Nat) (l1 l2 : List Int) (id : Int) (V : Nat) (hr : w.ownsRow B 3 1 (.slice A n c) n (ivs (l1 ++ id :: l2))) (h1 : ∀ x ∈ l1, x ≠ id) (h2 : ∀ x ∈ l2, x ≠ id) (hV : Blk w V 3 #[.int .i64 id]) (hne : (Value.slice A n c).ownBlock ≠ some V) (hn100 : n ≤ 100) :
    Calls Try.prog 48 #[.slice A n c, .func (.func 49) #[] #[.pointer (some ⟨V, 0, none⟩)]] w fun e w' => e = .returned (.slice A (l1 ++ l2).length c) ∧ w'.ownsRow B 3 1 (.slice A (l1 ++ l2).length c) (l1 ++ l2).length (ivs (l1 ++ l2)) ∧ w.grownBy w' (Value.slice A n c).ownBlock := by
  have hnl : n = l1.length + (l2.length + 1) := by have := hr.1; rw [ivs_length] at this; simp at this; omega
  obtain ⟨g, cap, cur, ev, hnc, hcm, hBg, hbg, hcs, hcx⟩ := own_cells hr (by omega)
  injection ev with ev _ ec
  subst ev ec
  have hVc := hV.cell (j := 0) (u := .int .i64 id) rfl
  have hidx := index_ w _ n c l1 l2 id V (rd_own hr) (by omega) h1 hVc
  obtain ⟨m1, hm1⟩ : ∃ m1, l1.length = m1 := ⟨_, rfl⟩
  obtain ⟨m2, hm2⟩ : ∃ m2, l2.length = m2 := ⟨_, rfl⟩
  rw [hm1] at hnl hidx
  rw [hm2] at hnl
  have Hm1 := Lib.hid hm1
  have Hm2 := Lib.hid hm2
  have Hll := Lib.hid (show (l1 ++ l2).length = m1 + m2 by rw [List.length_append, hm1, hm2])
  have hgV : g ≠ V := fun e => hne (by rw [e]; rfl)
  subst hnl
  clear hm1 hm2 hbg hcs hcx hcm hVc hBg
  have hm1n : ((m1 : Int) == -1) = false := by simp
  have hw1 : IntKind.i64.wrap ((m1 : Int) + 1) = ((m1 + 1 : Nat) : Int) := by rw [IntKind.wrap_i64]; omega
  rw [Hll.out]
  go_enter Try.func48, Try.ntmps48
  go_wp2_with fail
  refine hidx.mono ?_
  rintro e w' ⟨rfl, rfl⟩
  go_wp2_with fail
  go_loopw [5, 6] (fun iv jv wr => ∃ (t : Nat) (y : Int), t ≤ m2 ∧ iv = .int .i64 ((m1 + t : Nat) : Int) ∧ jv = .int .i64 ((m1 + t + 1 : Nat) : Int) ∧ wr.ownsRow B 3 1 (.slice (some ⟨g, 0, none⟩) (m1 + (m2 + 1)) c) (m1 + (m2 + 1)) (ivs (l1 ++ l2.take t ++ y :: l2.drop t)) ∧ w.grownBy wr (some g)) (fun _ jv _ => m1 + (m2 + 1) - (intOf jv).toNat)
  case atStart =>
    refine ⟨0, id, Nat.zero_le _, rfl, ?_, by simpa using hr, World.grownBy.refl _ _⟩
    show Value.int IntKind.i64 ((m1 : Int) + 1) = Value.int IntKind.i64 ((m1 + 1 : Nat) : Int)
    rw [Int.natCast_add]
    rfl
  case round =>
    obtain ⟨t, y, ht, rfl, rfl, hro, hgr⟩ := hrel
    by_cases hlt : t < m2
    · obtain ⟨x, hx⟩ : ∃ x, l2[t]? = some x := ⟨_, List.getElem?_eq_getElem (by rw [Hm2.out]; exact hlt)⟩
      have hxid := h2 x (List.mem_of_getElem? hx)
      have hbe : (x == id) = false := by simp [hxid]
      have hdr : l2.drop t = x :: l2.drop (t + 1) := Blo.drop_of hx
      have htk : l2.take (t + 1) = l2.take t ++ [x] := by rw [List.take_add_one, hx]; rfl
      have hlt1 : (l1 ++ l2.take t).length = m1 + t := by rw [List.length_append, List.length_take, Hm1.out, Hm2.out]; omega
      obtain ⟨g', cap', cur', ev, -, -, -, hbr, -, hcx⟩ := own_cells hro (by omega)
      have hgg : g = g' := by
        simp only [Value.slice.injEq, Option.some.injEq, Addr.mk.injEq] at ev
        exact ev.1.1
      subst hgg
      clear ev
      have hat : ∀ k u, (ivs (l1 ++ l2.take t ++ y :: l2.drop t))[k]? = some u → wr.cell? ⟨g, k, none⟩ = some u := fun k u hu => by
        refine hbr.cell ?_
        rw [← hcx, List.getElem?_take] at hu
        split at hu
        · simpa using hu
        · cases hu
      have c1 := hat (m1 + t + 1) (.int .i64 x) (ivs_at (by rw [List.getElem?_append_right (by omega), hlt1, show m1 + t + 1 - (m1 + t) = 1 by omega, hdr]; rfl))
      have c0 := hat (m1 + t) (.int .i64 y) (ivs_at (by rw [List.getElem?_append_right (by omega), hlt1, Nat.sub_self]; rfl))
      have f0 := hbr.free (m1 + t)
      have hVr := hV.grown hgr (fun e => by injection e with e; exact hgV e.symm)
      have hVc := hVr.cell (j := 0) (u := .int .i64 id) rfl
      have hset := own_set1 hro (m1 + t) (.int .i64 x) (by omega)
      have hset2 : (wr.setCell ⟨g, m1 + t, none⟩ (.int .i64 x)).ownsRow B 3 1 (.slice (some ⟨g, 0, none⟩) (m1 + (m2 + 1)) c) (m1 + (m2 + 1)) (ivs (l1 ++ l2.take (t + 1) ++ x :: l2.drop (t + 1))) := by
        have e : (ivs (l1 ++ l2.take t ++ y :: l2.drop t)).set (m1 + t) (.int .i64 x) = ivs (l1 ++ l2.take (t + 1) ++ x :: l2.drop (t + 1)) := by
          rw [hdr, htk]
          unfold ivs
          rw [List.map_append, List.map_cons, List.set_append_right _ _ (by rw [List.length_map, hlt1]; omega), List.length_map, hlt1, Nat.sub_self]
          simp
        rw [← e]
        exact hset
      have hg2 : w.grownBy (wr.setCell ⟨g, m1 + t, none⟩ (.int .i64 x)) (some g) := hgr.trans (grown_setCell _ _ _)
      have t1 : ((m1 + t + 1 : Nat) : Int) < ((m1 + (m2 + 1) : Nat) : Int) := by omega
      have t2 : (0 : Int) ≤ ((m1 + t + 1 : Nat) : Int) := by omega
      have t3 : ((m1 + t : Nat) : Int) < ((m1 + (m2 + 1) : Nat) : Int) := by omega
      have t4 : (0 : Int) ≤ ((m1 + t : Nat) : Int) := by omega
      have t5 : IntKind.i64.wrap (((m1 + t : Nat) : Int) + 1) = ((m1 + t + 1 : Nat) : Int) := by rw [IntKind.wrap_i64]; omega
      have t6 : m1 + t ≤ 100 := by omega
      have hMx := hlt
      clear hro hgr hat hset hdr htk hx hcx hxid hr hidx hlt1
      obtain ⟨p, hp⟩ : ∃ p, m1 + t = p := ⟨_, rfl⟩
      obtain ⟨N, hN⟩ : ∃ N, m1 + (m2 + 1) = N := ⟨_, rfl⟩
      rw [hp] at c1 c0 f0 hset2 hg2 t1 t2 t3 t4 t5 t6 ⊢
      rw [hN] at hset2 t1 t3 ⊢
      have Hp := Lib.hid hp
      have HN := Lib.hid hN
      clear hp hN
      go_wp2_with fail
      refine (isid_ _ x id V hVc).mono ?_
      rw [hbe]
      rintro e w2 ⟨rfl, rfl⟩
      go_wp2
      go_roundw
      case rel => exact ⟨t + 1, x, by omega, congrArg (Value.int .i64) (by have := Hp.out; omega), congrArg (Value.int .i64) (by have := Hp.out; omega), hset2, hg2⟩
      case measure => simp [intOf]; omega
    · have htm : t = m2 := by omega
      subst htm
      have etk : l2.take t = l2 := List.take_of_length_le (by rw [Hm2.out]; omega)
      have edr : l2.drop t = [] := List.drop_of_length_le (by rw [Hm2.out]; omega)
      rw [etk, edr] at hro
      have hz0 : ∀ w, (zeroValue 3).run Try.prog w = .ok (.int .i64 0) w := zero_int
      have hsh := fun (W : World) (h : W.ownsRow B 3 1 (.slice (some ⟨g, 0, none⟩) (m1 + (t + 1)) c) (m1 + (t + 1)) ((ivs (l1 ++ l2 ++ [y])).take (m1 + t) ++ List.replicate 1 (.int .i64 0) ++ (ivs (l1 ++ l2 ++ [y])).drop (m1 + t + 1))) => own_short h (m := m1 + t) (by omega)
      have hlen : (ivs (l1 ++ l2)).length = m1 + t := by rw [ivs_length]; exact Hll.out
      have hfinal : ((ivs (l1 ++ l2 ++ [y])).take (m1 + t) ++ List.replicate 1 (Value.int .i64 0) ++ (ivs (l1 ++ l2 ++ [y])).drop (m1 + t + 1)).take (m1 + t) = ivs (l1 ++ l2) := by
        have hA : (ivs (l1 ++ l2) ++ ivs [y]).take (m1 + t) = ivs (l1 ++ l2) := by
          rw [List.take_append_of_le_length (Nat.le_of_eq hlen.symm)]
          exact List.take_of_length_le (Nat.le_of_eq hlen)
        rw [ivs_app (l1 ++ l2), hA, List.append_assoc, List.take_append_of_le_length (Nat.le_of_eq hlen.symm), List.take_of_length_le (Nat.le_of_eq hlen)]
      rw [hfinal] at hsh
      obtain ⟨p, hp⟩ : ∃ p, m1 + t = p := ⟨_, rfl⟩
      have hN : m1 + (t + 1) = p + 1 := by omega
      rw [hN] at hro hsh hnc hn100 ⊢
      rw [hp] at hsh hlen ⊢
      have Hp := Lib.hid hp
      clear hr hidx hp hN etk edr hfinal hlt
      have u1 : ¬ ((p + 1 : Nat) : Int) < ((p + 1 : Nat) : Int) := by omega
      have u2 : (p : Int) ≤ ((p + 1 : Nat) : Int) := by omega
      have u3 : p ≤ c := by omega
      have u4 : ¬ c = p := by omega
      have u5 : (0 : Int) ≤ (p : Int) := by omega
      have u6 : p + 1 ≤ c := by omega
      have u7' : ((p + 1 : Nat) : Int) ≤ (c : Int) := by omega
      have u8 : (p : Int) ≤ (c : Int) := by omega
      have hm1s : p + 1 - p = 1 := by omega
      go_wp2_with (first
        | (refine wpList_clear_row _ rfl _ 42 rfl B g (p + 1) c 3 (.int .i64 0) _ hro Try.underlying42 hz0 rfl rfl p 1 (c - p) (by decide) (by omega) _ rfl (by omega) ?_
           intro w9 hown9 hg9))
      have hp' := Hp.out
      subst hp'
      go_ret
      exact ⟨rfl, hsh _ hown9, hgr.trans hg9⟩
end
end Sha
end Go.Proofs.Ytfcfffilfmbpeaa

/- Layer 15: a bag: Twice. -/
import Derived.Test.YtallbhdfbkkjkaaNetQ
set_option linter.all false
namespace Go.Proofs.Ytallbhdfbkkjkaa
open Go.RowKit
namespace Net
theorem bss_one {w : World} {m : Nat} {t : TypeId} {X : Option Addr} {n c : Nat} {d : List UInt8} (h : Blk w m t #[.slice X n c]) (hb : Bs w X n d) (hn : n ≤ c) (hc : c ≤ 9223372036854775807) : Bss w (some ⟨m, 0, none⟩) 1 [d] :=
  ⟨rfl, fun j hj => by
    obtain rfl : j = 0 := by simp at hj; omega
    exact ⟨m, 0, X, n, c, rfl, h.cell rfl, hn, hc, hb⟩⟩
theorem twice_of {l : List Gr} {i : Int} (h : hasB l i = true) : twiE l i = (if 256 ≤ l.length then 6 else 0) ∧ twiS l i = (if 256 ≤ l.length then l else l ++ [getG l i]) := by
  unfold twiE twiS
  rw [if_pos h, if_pos h]
  exact ⟨rfl, rfl⟩
theorem twice_no {l : List Gr} {i : Int} (h : hasB l i = false) : twiE l i = 9 ∧ twiS l i = l := by
  unfold twiE twiS
  rw [h]
  exact ⟨rfl, rfl⟩
section
variable (w : World)
set_option maxRecDepth 100000 in
set_option maxHeartbeats 4000000 in
theorem twice_ (B b : Nat) (U : Nat → Prop) (l : List Gr) (h : Bg w B b U l) (i : Int) :
    Calls Try.prog 22 #[.pointer (some ⟨b, 0, none⟩), .int .i64 i] w fun e w' => e = .returned (.int .i64 (twiE l i)) ∧ Bg w' B b (fun k => U k ∨ w.heap.size ≤ k) (twiS l i) ∧ Fu (Sb b U) w w' := by
  obtain ⟨v, L, rfl, hX⟩ := h
  have hRf := refuse_ w B b U v L hX i
  have hblt := hX.blk.lt
  have hX2 : BgX w B b (fun k => U k ∧ k < w.heap.size) v L := hX.sub (fun k hk hlt => ⟨hk, hlt⟩) (fun e => hX.out e.1)
  by_cases hi : hasB (L.map (·.2)) i = true
  · obtain ⟨t1, t2⟩ := twice_of hi
    rw [(take_of hi).1] at hRf
    have hi2 := has_iff.1 hi
    rw [List.length_map] at hi2 t1 t2
    obtain ⟨k, rfl⟩ := Int.eq_ofNat_of_zero_le hi2.1
    have hk : k < L.length := by omega
    obtain ⟨g, c, rfl, hLc, hcm, c0, c1, hfz, hUg⟩ := hX.elem hk
    have hx := hX.data _ (List.getElem_mem hk)
    have hdU := hX.dataU _ (List.getElem_mem hk)
    have hdf := hX.far _ (List.getElem_mem hk)
    obtain ⟨X, cx, ex, hcx, hmx, hAx⟩ := own_form hx
    rw [getG_map hk] at t2
    have b1 := hX.blk.cell (j := 1) (u := .slice (some ⟨g, 0, none⟩) L.length c) rfl
    have hnb : g ≠ b := fun e => hX.out (e ▸ hUg)
    have hgl : g < w.heap.size := cell_lt c0
    have hne : ∀ q, L[k].1.ownBlock = some q → q ≠ g := fun q hq e => own_ne hX.row hx (by decide) (g := g) rfl (by rw [hq, e])
    obtain ⟨p, hp⟩ : ∃ p, L[k] = p := ⟨_, rfl⟩
    rw [hp] at c0 c1 ex hdU hcx hAx t2 hne hx hdf
    obtain ⟨xv, d, xs⟩ := p
    simp only at c0 c1 ex hdU hcx hAx hne hx hdf
    obtain ⟨nx, hnx⟩ : ∃ nx, d.length = nx := ⟨_, rfl⟩
    rw [hnx] at ex hcx hAx hx
    subst ex
    have hxb : ∀ q, (Value.slice X nx cx).ownBlock = some q → q ≠ b := fun q hq e => hX.out (e ▸ hdU q hq)
    have hlow := hX.low
    have hrl := hX.row.lt g rfl
    unfold maxLen at hmx
    obtain ⟨n, hn⟩ : ∃ n, L.length = n := ⟨_, rfl⟩
    rw [hn] at hLc b1 t1 t2
    have k1 : (k : Int) < (n : Int) := by omega
    have k2 : (0 : Int) ≤ (k : Int) := by omega
    have k3 : k < n := by omega
    -- add, at the world behind the row of one
    have hba : Below w.heap.size w (w.drew.alloc (.cells #[.slice X nx cx] 22)) := by
      have q := (Below.refl w.drew.heap.size w.drew).alloc (Nat.le_refl _) (.cells #[.slice X nx cx] 22)
      exact ⟨q.os, q.tape, q.output, q.size, q.block⟩
    have hXa : BgX (w.drew.alloc (.cells #[.slice X nx cx] 22)) B b (fun k => U k ∧ k < w.heap.size) (.slice (some ⟨g, 0, none⟩) L.length c) L := hX2.keep hba
    have hma : Blk (w.drew.alloc (.cells #[.slice X nx cx] 22)) w.heap.size 22 #[.slice X nx cx] := Blk.new w.drew _ _ rfl
    have hxa := own_keep hx hba
    have hsa : (w.drew.alloc (.cells #[.slice X nx cx] 22)).heap.size = w.heap.size + 1 := by simp
    have hA := add_ (w.drew.alloc (.cells #[.slice X nx cx] 22)) B b _ _ L hXa xs (some ⟨w.heap.size, 0, none⟩) 1 1 [d] (fun w1 hf => by
      refine bss_one (blk_fu hma hf (fun e => e.elim (by omega) (fun e => by injection e with e; simp only at e; omega))) (bs_own (own_fu hxa hf (fun q hq e => e.elim (fun e => hxb q hq e) (fun e => by injection e with e; exact hne q hq e.symm)))) hcx (by omega)) (Nat.le_refl _) (by omega) (by simpa using hdf) (fun k hk => by rw [hsa]; have := hk.2; omega)
    have HA := Lib.hid hA
    have b1a := hba.cell hblt |>.trans b1
    have c0a := hba.cell hgl |>.trans c0
    have c1a := hba.cell hgl |>.trans c1
    have hfew := hX.few
    rw [hn] at hfew
    have hS : ∀ w1, Fu (Sv b (.slice (some ⟨g, 0, none⟩) L.length c)) (w.drew.alloc (.cells #[.slice X nx cx] 22)) w1 → Fu (Sb b U) w w1 := fun w1 hf =>
      (Fu.ofBelow hba).then hf (fun j e => e.elim (fun e => .inl (.inl e)) (fun e => .inl (.inr (by injection e with e; exact e ▸ hUg))))
    have hout := hX.out
    by_cases hf : 256 ≤ n
    · rw [if_pos hf] at t1 t2
      have HT := Lib.hid t1
      have HS := Lib.hid t2
      have HP := Lib.hid (show putN (L.map (·.2)) [d] = 0 by unfold putN; rw [List.length_map, hn]; simp; omega)
      have HQ := Lib.hid (show addS (L.map (·.2)) xs [d] = L.map (·.2) by unfold addS; rw [List.length_map, hn, show 256 - n = 0 by omega]; simp)
      clear t1 t2 hi hi2 hk hX hX2 hx hp hnx hn hA hXa hma hxa
      go_enter Try.func22, Try.ntmps22
      go_wp2_with fail
      refine hRf.mono ?_
      rintro e w' ⟨rfl, rfl⟩
      go_wp2_with fail
      go_region_law (first
          | (go_simp
             go_at_call 47
             refine HA.out.mono ?_
             rw [HP.out, HQ.out]
             rintro e w2 ⟨rfl, hB2, hF2⟩))
      all_goals (
       go_wp2
       go_ret
       rw [HT.out, HS.out]
       exact ⟨rfl, hB2.sub (fun q hq _ => hq.imp (fun e => e.1) (fun e => by omega)) (fun e => e.elim hout (by omega)), hS _ hF2⟩)
    · rw [if_neg hf] at t1 t2
      have HT := Lib.hid t1
      have HS := Lib.hid t2
      have HP := Lib.hid (show putN (L.map (·.2)) [d] = 1 by unfold putN; rw [List.length_map, hn]; simp; omega)
      have HQ := Lib.hid (show addS (L.map (·.2)) xs [d] = L.map (·.2) ++ [⟨d, xs⟩] by
        unfold addS
        rw [List.length_map, hn]
        obtain ⟨r, hr⟩ : ∃ r, 256 - n = r + 1 := ⟨256 - n - 1, by omega⟩
        rw [hr]; simp)
      clear t1 t2 hi hi2 hk hX hX2 hx hp hnx hn hA hXa hma hxa
      go_enter Try.func22, Try.ntmps22
      go_wp2_with fail
      refine hRf.mono ?_
      rintro e w' ⟨rfl, rfl⟩
      go_wp2_with fail
      go_region_law (first
          | (go_simp
             go_at_call 47
             refine HA.out.mono ?_
             rw [HP.out, HQ.out]
             rintro e w2 ⟨rfl, hB2, hF2⟩))
      all_goals (
       go_wp2
       go_ret
       rw [HT.out, HS.out]
       exact ⟨rfl, hB2.sub (fun q hq _ => hq.imp (fun e => e.1) (fun e => by omega)) (fun e => e.elim hout (by omega)), hS _ hF2⟩)
  · have hi : hasB (L.map (·.2)) i = false := by simpa using hi
    obtain ⟨t1, t2⟩ := twice_no hi
    rw [(take_no hi).1] at hRf
    have HT := Lib.hid t1
    have HS := Lib.hid t2
    clear t1 t2 hi
    go_enter Try.func22, Try.ntmps22
    go_wp2_with fail
    refine hRf.mono ?_
    rintro e w' ⟨rfl, rfl⟩
    go_wp2
    go_ret
    rw [HT.out, HS.out]
    exact ⟨rfl, ⟨v, L, rfl, hX.sub (fun k hk _ => .inl hk) (fun e => e.elim hX.out (by omega))⟩, Fu.refl _ _⟩
end
end Net
end Go.Proofs.Ytallbhdfbkkjkaa

/- Layer 15: a bag: Turn, walked. -/
import Derived.Test.YtallbhdfbkkjkaaNetS
set_option linter.all false
namespace Go.Proofs.Ytallbhdfbkkjkaa
open Go.RowKit
namespace Net
theorem turn_no {l : List Gr} {i z : Int} {y : UInt8} (h : ¬ turE l i z y = 0) : turS l i z y = l := by unfold turS; rw [if_neg h]
theorem turn_at {l : List Gr} {i z : Int} {y : UInt8} (h : hasB l i = true) : turE l i z y = (if (getG l i).s then 10 else if (getG l i).b.length = 0 ∨ y = 0 then 1 else 0) := by unfold turE; rw [if_pos h]
theorem turn_none {l : List Gr} {i z : Int} {y : UInt8} (h : hasB l i = false) : turE l i z y = 9 := by unfold turE; rw [h]; rfl
section
variable (w : World)
set_option maxRecDepth 100000 in
set_option maxHeartbeats 4000000 in
theorem turn_ (B b : Nat) (U : Nat → Prop) (l : List Gr) (h : Bg w B b U l) (i z : Int) (y : UInt8) (hz : -9223372036854775808 ≤ z ∧ z ≤ 9223372036854775807) :
    Calls Try.prog 24 #[.pointer (some ⟨b, 0, none⟩), .int .i64 i, .int .i64 z, .int .u8 (y.toNat : Int)] w fun e w' => e = .returned (.int .i64 (turE l i z y)) ∧ Bg w' B b U (turS l i z y) ∧ Fu (Sb b U) w w' := by
  obtain ⟨v, L, rfl, hX⟩ := h
  have hRf := refuse_ w B b U v L hX i
  have hblt := hX.blk.lt
  by_cases hi : hasB (L.map (·.2)) i = true
  · have t1 := turn_at (z := z) (y := y) hi
    rw [(take_of hi).1] at hRf
    have hi2 := has_iff.1 hi
    rw [List.length_map] at hi2
    obtain ⟨k, rfl⟩ := Int.eq_ofNat_of_zero_le hi2.1
    have hk : k < L.length := by omega
    obtain ⟨g, c, rfl, hLc, hcm, c0, c1, hfz, hUg⟩ := hX.elem hk
    have hx := hX.data _ (List.getElem_mem hk)
    have hdU := hX.dataU _ (List.getElem_mem hk)
    obtain ⟨X, cx, ex, hcx, hmx, hAx⟩ := own_form hx
    rw [getG_map hk] at t1
    have b1 := hX.blk.cell (j := 1) (u := .slice (some ⟨g, 0, none⟩) L.length c) rfl
    have hgl : g < w.heap.size := cell_lt c0
    have hnb : g ≠ b := fun e => hX.out (e ▸ hUg)
    have hne : ∀ q, L[k].1.ownBlock = some q → q ≠ g := fun q hq e => own_ne hX.row hx (by decide) (g := g) rfl (by rw [hq, e])
    obtain ⟨p, hp⟩ : ∃ p, L[k] = p := ⟨_, rfl⟩
    have hLs : L = L.take k ++ p :: L.drop (k + 1) := by rw [← hp, ← List.drop_eq_getElem_cons hk, List.take_append_drop]
    rw [hp] at c0 c1 ex hdU hcx hAx t1 hne hx
    obtain ⟨xv, d, xs⟩ := p
    simp only at c0 c1 ex hdU hcx hAx hne hx t1
    obtain ⟨nx, hnx⟩ : ∃ nx, d.length = nx := ⟨_, rfl⟩
    have Hnx := Lib.hid hnx
    rw [hnx] at ex hcx hAx hx t1
    subst ex
    have HX := Lib.hid hX
    obtain ⟨n, hn⟩ : ∃ n, L.length = n := ⟨_, rfl⟩
    have Hn := Lib.hid hn
    have HLs := Lib.hid hLs
    rw [hn] at hLc b1
    have k1 : (k : Int) < (n : Int) := by omega
    have k2 : (0 : Int) ≤ (k : Int) := by omega
    have k3 : k < n := by omega
    have HK := Lib.hid hk
    unfold maxLen at hmx
    have hbX : ∀ e, turE (L.map (·.2)) (k : Int) z y = e → ¬ e = 0 → Bg w B b U (turS (L.map (·.2)) (k : Int) z y) := fun e he h0 => by
      rw [turn_no (by rw [he]; exact h0)]
      exact ⟨_, L, rfl, HX.out⟩
    have hy1 := y.toNat_lt
    cases xs with
    | true =>
      have HT := Lib.hid (show turE (L.map (·.2)) (k : Int) z y = 10 by rw [t1]; rfl)
      have HBX := Lib.hid (hbX 10 HT.out (by decide))
      clear t1 hi hi2 hk hX hx hp hnx hn hLs hbX
      go_enter Try.func24, Try.ntmps24
      go_wp2_with fail
      refine hRf.mono ?_
      rintro e w' ⟨rfl, rfl⟩
      go_wp2
      go_ret
      rw [HT.out]
      exact ⟨rfl, HBX.out, Fu.refl _ _⟩
    | false =>
      by_cases h0 : nx = 0
      · have HT := Lib.hid (show turE (L.map (·.2)) (k : Int) z y = 1 by rw [t1, h0]; simp)
        have HBX := Lib.hid (hbX 1 HT.out (by decide))
        subst h0
        clear t1 hi hi2 hk hX hx hp hnx hn hLs hbX
        go_enter Try.func24, Try.ntmps24
        go_wp2_with fail
        refine hRf.mono ?_
        rintro e w' ⟨rfl, rfl⟩
        go_wp2
        go_ret
        rw [HT.out]
        exact ⟨rfl, HBX.out, Fu.refl _ _⟩
      · have n0 : ¬ (nx : Int) = 0 := by omega
        have n0' : ((nx : Int) == 0) = false := by simpa using n0
        by_cases h1 : y = 0
        · have HT := Lib.hid (show turE (L.map (·.2)) (k : Int) z y = 1 by rw [t1, h1]; simp)
          have HBX := Lib.hid (hbX 1 HT.out (by decide))
          subst h1
          clear t1 hi hi2 hk hX hx hp hnx hn hLs hbX
          go_enter Try.func24, Try.ntmps24
          go_wp2_with fail
          refine hRf.mono ?_
          rintro e w' ⟨rfl, rfl⟩
          go_wp2
          go_ret
          rw [HT.out]
          exact ⟨rfl, HBX.out, Fu.refl _ _⟩
        · have HT := Lib.hid (show turE (L.map (·.2)) (k : Int) z y = 0 by rw [t1]; simp [h0, h1])
          have y0 : ¬ (y.toNat : Int) = 0 := by
            intro e
            exact h1 (UInt8.toNat_inj.1 (by simpa using e))
          have y0' : ((y.toNat : Int) == 0) = false := by simpa using y0
          have hat := at_is (n := nx) (by omega) z
          have hatl := atN_lt (n := nx) (by omega) z
          have tb := tmod_bounds z nx (by omega)
          obtain ⟨gx, cx', eX, hgx1, hgx2⟩ := hx.form (by omega)
          injection eX with eX _ eX3
          subst eX eX3
          obtain ⟨a, ha⟩ : ∃ a, atN nx z = a := ⟨_, rfl⟩
          rw [ha] at hat hatl
          have Ha := Lib.hid ha
          have had : a < d.length := by rw [hnx]; exact hatl
          have e0 : w.cell? ⟨gx, a, none⟩ = some (.int .u8 (d[a].toNat : Int)) := by
            rw [hx.cellAt a (by omega)]
            simp only [bvs, bv, List.getElem?_map, List.getElem?_eq_getElem had, Option.map_some]
          have e1 := hx.frozenAt a
          have hold : d[a].toNat < 256 := UInt8.toNat_lt _
          have hxr := u8_xor_nat _ _ hold (show y.toNat < 256 by omega)
          have hst := hx.stored a (.int .u8 ((d[a].toNat ^^^ y.toNat : Nat) : Int))
          have hset : (bvs d).set a (.int .u8 ((d[a].toNat ^^^ y.toNat : Nat) : Int)) = bvs (d.set a (d[a] ^^^ y)) := by
            simp only [bvs, List.map_set, bv, UInt8.toNat_xor]
          rw [hset] at hst
          have Hd' := Lib.hid (show turnB d z y = d.set a (d[a] ^^^ y) by
            unfold turnB; rw [hnx, ha, List.getD, List.getElem?_eq_getElem had]; rfl)
          obtain ⟨old, hold'⟩ : ∃ old, d[a] = old := ⟨_, rfl⟩
          rw [hold'] at e0 hxr hst Hd'
          have Hx := Lib.hid hxr
          have Hst := Lib.hid hst
          have Hhat := Lib.hid hat
          have hgg := hne gx rfl
          have a1 : (a : Int) < (nx : Int) := by omega
          have a2 : (0 : Int) ≤ (a : Int) := by omega
          obtain ⟨t, ht⟩ : ∃ t, z.tmod (nx : Int) = t := ⟨_, rfl⟩
          rw [ht] at tb
          have w1 : IntKind.i64.wrap t = t := IntWalk.i64_in _ (by omega)
          have Ht := Lib.hid ht
          clear t1 hi hi2 hk hX hx hp hnx hn hLs hbX hat ha hxr hst hset ht
          have hfin : Bg ((w.setCell ⟨gx, a, none⟩ (.int .u8 ((old.toNat ^^^ y.toNat : Nat) : Int))).setCell ⟨g, k * 2 + 1, none⟩ (.bool true)) B b U (turS (L.map (·.2)) (k : Int) z y) ∧ Fu (Sb b U) w ((w.setCell ⟨gx, a, none⟩ (.int .u8 ((old.toNat ^^^ y.toNat : Nat) : Int))).setCell ⟨g, k * 2 + 1, none⟩ (.bool true)) := by
            obtain ⟨h1, h2⟩ := Hst.out
            have hpl : (L.take k).length = k := by rw [List.length_take]; have := HK.out; omega
            have hX := HX.out
            have hX' : BgX w B b U (.slice (some ⟨g, 0, none⟩) L.length c) (L.take k ++ (.slice (some ⟨gx, 0, none⟩) nx cx, (⟨d, false⟩ : Gr)) :: L.drop (k + 1)) := by rw [← HLs.out]; exact hX
            have hE := hX'.turn (d' := d.set a (old ^^^ y)) (by rw [← HLs.out]) (gx := gx) rfl h2 (by rw [List.length_set, Hnx.out]; exact h1) (by rw [List.length_set])
            rw [hpl] at hE
            refine ⟨⟨_, _, ?_, hE⟩, (Fu.ofGrown h2 (fun q e => by injection e with e; exact .inr (e ▸ hdU gx rfl))).step (grown_setCell _ ⟨g, k * 2 + 1, none⟩ _) (fun q e => by injection e with e; exact .inl (.inr (e ▸ hUg)))⟩
            unfold turS
            rw [if_pos HT.out, Int.toNat_natCast, getG_map HK.out]
            have hp : L[k]'HK.out = (.slice (some ⟨gx, 0, none⟩) nx cx, (⟨d, false⟩ : Gr)) := by
              have q := congrArg (·[k]?) HLs.out
              rw [List.getElem?_eq_getElem HK.out, List.getElem?_append_right (by omega), hpl, Nat.sub_self, List.getElem?_cons_zero] at q
              injection q
            rw [hp]
            simp only
            rw [Hd'.out]
            conv => lhs; rw [HLs.out]
            rw [List.map_append, List.map_cons, List.set_append_right _ _ (by rw [List.length_map]; omega), List.length_map, hpl, Nat.sub_self, List.set_cons_zero, List.map_append, List.map_cons]
          have Hfin := Lib.hid hfin
          have hxr := Hx.out
          have hsp1 : (w.setCell ⟨gx, a, none⟩ (.int .u8 ((old.toNat ^^^ y.toNat : Nat) : Int))).cell? ⟨g, k * 2 + 1, none⟩ = some (.bool false) := (World.cell?_setCell_other _ _ _ _ (by simp [hgg.symm])).trans c1
          have hsp2 : (w.setCell ⟨gx, a, none⟩ (.int .u8 ((old.toNat ^^^ y.toNat : Nat) : Int))).frozen? ⟨g, k * 2 + 1, none⟩ = false := by
            have q := hfz (k * 2 + 1)
            simpa [World.frozen?_setCell] using q
          have hst3 : ((a : Int)).toNat = a := Int.toNat_natCast a
          clear hfin hold had hold'
          by_cases t0 : t < 0
          · have q0 : z.tmod (nx : Int) < 0 := by rw [Ht.out]; exact t0
            have q1 : wrap64 (z.tmod (nx : Int) + nx) = (a : Int) := by
              have := Hhat.out
              rw [if_pos q0] at this
              rw [this]
              exact IntWalk.wrap64_in _ (by omega)
            go_enter Try.func24, Try.ntmps24
            go_wp2_with fail
            refine hRf.mono ?_
            rintro e w' ⟨rfl, rfl⟩
            go_wp2
            go_ret
            exact ⟨by rw [HT.out]; rfl, Hfin.out⟩
          · have q0 : z.tmod (nx : Int) = (a : Int) := by
              have := Hhat.out
              rw [if_neg (by rw [Ht.out]; exact t0)] at this
              exact this
            have q1 : ¬ (a : Int) < 0 := by omega
            go_enter Try.func24, Try.ntmps24
            go_wp2_with fail
            refine hRf.mono ?_
            rintro e w' ⟨rfl, rfl⟩
            go_wp2
            go_ret
            exact ⟨by rw [HT.out]; rfl, Hfin.out⟩
  · have hi : hasB (L.map (·.2)) i = false := by simpa using hi
    rw [(take_no hi).1] at hRf
    have HT := Lib.hid (turn_none (z := z) (y := y) hi)
    have HS := Lib.hid (turn_no (l := L.map (·.2)) (i := i) (z := z) (y := y) (by rw [HT.out]; decide))
    clear hi
    go_enter Try.func24, Try.ntmps24
    go_wp2_with fail
    refine hRf.mono ?_
    rintro e w' ⟨rfl, rfl⟩
    go_wp2
    go_ret
    rw [HT.out, HS.out]
    exact ⟨rfl, ⟨v, L, rfl, hX⟩, Fu.refl _ _⟩
end
end Net
end Go.Proofs.Ytallbhdfbkkjkaa

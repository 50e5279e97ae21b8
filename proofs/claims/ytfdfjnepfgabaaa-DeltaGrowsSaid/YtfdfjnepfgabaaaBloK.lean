/- Layer 8: what is told shortly, by join; shortly. -/
import Derived.Test.YtfdfjnepfgabaaaBloJ
set_option linter.all false
namespace Go.Proofs.Ytfdfjnepfgabaaa
open Go.RowKit
namespace Blo

theorem last_of {α : Type} {l : List α} {y : α} (h : l.getLast? = some y) : ∃ p, l = p ++ [y] := by
  rcases snoc_cases l with rfl | ⟨p, z, rfl⟩
  · cases h
  · simp at h; subst h; exact ⟨p, rfl⟩
/-- The last op of what is told shortly ends at the block ahead just if that one was touched. -/
theorem short_end {m : Nat → Option Nat} {k : Nat} {y : BOp} (h : (shortS m k).getLast? = some y) : (∃ z, prevOf m k = some z ∧ y.off + y.cnt = (k : Int) ∧ (if z = 0 then y.kind = 2 else y.kind = 1)) ∨ (prevOf m k = none ∧ y.off + y.cnt < (k : Int)) := by
  cases k with
  | zero => cases h
  | succ j =>
    cases hm : m j with
    | some z =>
      obtain ⟨p, y', e, h1, h2⟩ := (short_inv m (j + 1)).last j z rfl hm
      rw [e] at h
      simp at h
      subst h
      exact .inl ⟨z, hm, h1, h2⟩
    | none =>
      refine .inr ⟨hm, ?_⟩
      have e : shortS m (j + 1) = shortS m j := by
        show stepS (shortS m j) (prevOf m j) j (m j) = _
        rw [hm]; rfl
      rw [e] at h
      obtain ⟨p, hp⟩ := last_of h
      have := (short_inv m j).ok y (by rw [hp]; simp)
      have := this.high
      omega
theorem join_short {m : Nat → Option Nat} {k x : Nat} (hm : m k = some x) : joinS (shortS m k) (becomeO k x) = shortS m (k + 1) := by
  show _ = stepS (shortS m k) (prevOf m k) k (m k)
  rw [hm]
  cases hl : (shortS m k).getLast? with
  | none =>
    have h0 : shortS m k = [] := by simpa using hl
    rw [h0]
    cases x with
    | zero => rfl
    | succ x => rfl
  | some y =>
    obtain ⟨p, hp⟩ := last_of hl
    have hok := (short_inv m k).ok y (by rw [hp]; simp)
    have hfr := from_ok hok
    have hend := short_end hl
    have hj : joinS (shortS m k) (becomeO k x) = if oneB y (becomeO k x) then (shortS m k).dropLast ++ [mergeO y (becomeO k x)] else shortS m k ++ [becomeO k x] := by
      unfold joinS; rw [hl]
    rw [hj]
    cases x with
    | zero =>
      have hb : becomeO k 0 = ⟨2, k, 1, []⟩ := rfl
      rw [hb]
      unfold stepS
      rw [hl]
      simp only
      by_cases hc : prevOf m k = some 0
      · rcases hend with ⟨z, hz, h1, h2⟩ | ⟨h1, _⟩
        · rw [hc] at hz
          injection hz with hz
          subst hz
          rw [if_pos rfl] at h2
          have hd : y.data = [] := by
            rcases hok.form with q | q
            · omega
            · exact q.2
          have ho : oneB y ⟨2, k, 1, []⟩ = true := by
            unfold oneB
            rw [hfr]
            simp [h1, h2, hd]
          rw [if_pos ho, if_pos hc]
          simp [mergeO]
        · rw [hc] at h1; cases h1
      · have ho : ¬ oneB y ⟨2, k, 1, []⟩ = true := by
          unfold oneB
          rw [hfr]
          intro q
          simp only [Bool.and_eq_true, decide_eq_true_eq] at q
          rcases hend with ⟨z, hz, h1, h2⟩ | ⟨_, h1⟩
          · by_cases hz0 : z = 0
            · subst hz0; exact hc hz
            · rw [if_neg hz0] at h2; omega
          · omega
        rw [if_neg ho, if_neg hc]
    | succ x =>
      have hb : becomeO k (x + 1) = ⟨1, k, 0, [x + 1]⟩ := rfl
      rw [hb]
      unfold stepS
      rw [hl]
      simp only
      by_cases hc : ((prevOf m k).isSome && prevOf m k != some 0) = true ∧ y.data.length < 64
      · rcases hend with ⟨z, hz, h1, h2⟩ | ⟨h1, _⟩
        · have hz0 : z ≠ 0 := by intro e; subst e; rw [hz] at hc; simp at hc
          rw [if_neg hz0] at h2
          have ho : oneB y ⟨1, k, 0, [x + 1]⟩ = true := by
            unfold oneB
            rw [hfr]
            simp [h1, h2]
            omega
          rw [if_pos ho, if_pos hc]
          simp [mergeO]
        · rw [h1] at hc; simp at hc
      · have ho : ¬ oneB y ⟨1, k, 0, [x + 1]⟩ = true := by
          unfold oneB
          rw [hfr]
          intro q
          simp only [Bool.and_eq_true, decide_eq_true_eq, List.length_singleton] at q
          rcases hend with ⟨z, hz, h1, h2⟩ | ⟨_, h1⟩
          · have hz0 : z ≠ 0 := by intro e; subst e; rw [if_pos rfl] at h2; omega
            exact hc ⟨by rw [hz]; simp [hz0], by omega⟩
          · omega
        rw [if_neg ho, if_neg hc]
theorem short_length (m : Nat → Option Nat) : ∀ k, (shortS m k).length ≤ k
  | 0 => Nat.le_refl _
  | k + 1 => by
    have ih := short_length m k
    show (stepS (shortS m k) (prevOf m k) k (m k)).length ≤ k + 1
    cases hm : m k with
    | none => exact Nat.le_succ_of_le ih
    | some x =>
      have := join_short hm
      have e : stepS (shortS m k) (prevOf m k) k (some x) = joinS (shortS m k) (becomeO k x) := by rw [this]; show _ = stepS _ _ _ (m k); rw [hm]
      rw [e]
      unfold joinS
      split
      · split <;> simp <;> omega
      · simp; omega
theorem short_low {m : Nat → Option Nat} (h : ∀ i x, m i = some x → x < 18446744073709551616) : ∀ k, ∀ o ∈ shortS m k, ∀ z ∈ o.data, z < 18446744073709551616
  | 0, o, ho => by simp [shortS] at ho
  | k + 1, o, ho => by
    have ih := short_low h k
    cases hm : m k with
    | none =>
      have e : shortS m (k + 1) = shortS m k := by
        show stepS (shortS m k) (prevOf m k) k (m k) = _
        rw [hm]; rfl
      rw [e] at ho
      exact ih o ho
    | some x =>
      rw [← join_short hm] at ho
      have hb : ∀ z ∈ (becomeO k x).data, z < 18446744073709551616 := by
        unfold becomeO
        split
        · simp
        · simp only [List.mem_singleton]; rintro z rfl; exact h k z hm
      unfold joinS at ho
      split at ho
      · rename_i y hy
        obtain ⟨p, hp⟩ := last_of hy
        split at ho
        · rcases List.mem_append.1 ho with ho | ho
          · exact ih o ((List.dropLast_sublist _).subset ho)
          · rw [List.mem_singleton.1 ho]
            intro z hz
            rcases List.mem_append.1 hz with hz | hz
            · exact ih y (by rw [hp]; simp) z hz
            · exact hb z hz
        · rcases List.mem_append.1 ho with ho | ho
          · exact ih o ho
          · rw [List.mem_singleton.1 ho]; exact hb
      · rcases List.mem_append.1 ho with ho | ho
        · exact ih o ho
        · rw [List.mem_singleton.1 ho]; exact hb
theorem short_sml {m : Nat → Option Nat} (h : ∀ i x, m i = some x → x < 18446744073709551616) {k : Nat} (hk : k ≤ 1024) : ∀ o ∈ shortS m k, Sml o := fun o ho => sml_of (n := (k : Int)) ((short_inv m k).ok o ho) (by omega) (short_low h k o ho)
theorem become_ok (k x : Nat) : (becomeO k x).Ok ((k + 1 : Nat) : Int) := by
  unfold becomeO
  split
  · exact ⟨by simp, by simp [BOp.cnt], by simp [BOp.cnt], .inr ⟨rfl, rfl⟩⟩
  · exact ⟨by simp, by simp [BOp.cnt], by simp [BOp.cnt], .inl ⟨rfl, rfl, by simp⟩⟩
theorem become_low {k x : Nat} (h : x < 18446744073709551616) : ∀ z ∈ (becomeO k x).data, z < 18446744073709551616 := by
  unfold becomeO
  split
  · simp
  · simp only [List.mem_singleton]; rintro z rfl; exact h
/-- What has come of each block. -/
def tof (tc : Nat → Bool) (f : Int → Nat) (i : Nat) : Option Nat := if tc i then some (f (i : Int)) else none
theorem tof_low {tc : Nat → Bool} {f : Int → Nat} (h : low64 f) : ∀ i x, tof tc f i = some x → x < 18446744073709551616 := fun i x hx => by
  unfold tof at hx
  split at hx
  · injection hx with hx; rw [← hx]; exact h _
  · cases hx
/-- Boolean rows. -/
def tvs (n : Nat) (tc : Nat → Bool) : List Value := (List.range n).map fun i => Value.bool (tc i)
theorem tvs_at {n i : Nat} (tc : Nat → Bool) (h : i < n) : (tvs n tc)[i]? = some (.bool (tc i)) := by simp [tvs, h]
theorem tvs_length (n : Nat) (tc : Nat → Bool) : (tvs n tc).length = n := by simp [tvs]
section
variable (w : World)
set_option maxRecDepth 100000 in
set_option maxHeartbeats 2000000 in
theorem shortly_ (A T : Option Addr) (n c tcap : Nat) (f : Int → Nat) (tc : Nat → Bool) (hn : n ≤ 1024) (hv : Ns w A n (vol n f)) (hl : low64 f) (ht : Rd w T 1 n (tvs n tc)) :
    Calls Try.prog 53 #[.slice A n c, .slice T n tcap] w fun e w' => Told w w' w.heap.size e (shortS (tof tc f) n) := by
  go_enter Try.func53, Try.ntmps53
  go_wp2_with fail
  go_loopw [10, 5] (fun iv vv wr => ∃ (i nn : Nat) (L : List (BOp × Value)), i ≤ n ∧ iv = .int .i64 (i : Int) ∧ Ol wr w.heap.size vv nn L ∧ L.map Prod.fst = shortS (tof tc f) i ∧ Below w.heap.size w wr) (fun iv _ _ => n - (intOf iv).toNat)
  case atStart => exact ⟨0, 0, [], Nat.zero_le _, rfl, Ol.nil _ _, rfl, Below.refl _ _⟩
  case round =>
    obtain ⟨i, nn, L, hi, rfl, hO, hLm, hb⟩ := hrel
    obtain ⟨Ar, cr, rfl, -, -, -⟩ := own_form hO.row
    by_cases hlt : i < n
    · have hil : (i : Int) < (n : Int) := by omega
      have hi0 : (0 : Int) ≤ (i : Int) := by omega
      obtain ⟨b, o, rfl, hx, hc, hxl⟩ := (hv.below hb).at_ hlt
      have hxe : (vol n f)[i] = f (i : Int) := by
        have := vol_at f hlt
        rw [List.getElem?_eq_getElem hx] at this
        injection this
      rw [hxe] at hc hxl
      obtain ⟨b', o', rfl, hx', hc'⟩ := (ht.below hb).at_ hlt
      have hxe' : (tvs n tc)[i] = .bool (tc i) := by
        have := tvs_at tc hlt
        rw [List.getElem?_eq_getElem hx'] at this
        injection this
      rw [hxe'] at hc'
      clear hxe hxe' hx hx' hv ht
      generalize hfx : f (i : Int) = x at *
      have Hx := Lib.hid hfx
      clear hfx
      cases htc : tc i with
      | true =>
        rw [htc] at hc'
        have Hm := Lib.hid (show tof tc f i = some x by unfold tof; rw [htc, if_pos rfl, Hx.out])
        have Hsm := Lib.hid (short_sml (tof_low (tc := tc) hl) (k := i) (by omega))
        have hnn : nn ≤ 2000 := by
          have h1 := hO.len
          have h2 : (L.map Prod.fst).length = (shortS (tof tc f) i).length := by rw [hLm]
          have h3 := short_length (tof tc f) i
          rw [List.length_map] at h2
          omega
        clear htc
        go_wp2_with fail
        refine (become_ wr i x (by omega) hxl).mono ?_
        rintro e w2 ⟨d, rfl, hd, hb2⟩
        have hO2 := hO.keep hb2
        have hB2 := below_step hb hb2 (Nat.le_refl _)
        have hd2 := hd.mono hb.size
        have hap : ∀ p ∈ L, ∀ g, p.2.ownBlock = some g → d.ownBlock ≠ some g := fun p hp g hg e => by
          have h1 := ((hO.data p hp).lt g hg).2
          have h2 := (hd.lt g e).1
          omega
        have hs : Sml (becomeO i x) := sml_of (become_ok i x) (by omega) (become_low hxl)
        have hbz := hB2.size
        have HL := Lib.hid hLm
        clear hc hc' hb2 hd hO hb hLm
        go_wp2_with fail
        refine (join_ w2 w.heap.size _ nn L (becomeO i x) d hO2 hbz hnn (fun p hp => Hsm.out p.1 (by rw [← HL.out]; exact List.mem_map_of_mem hp)) hs hd2 hap).mono ?_
        rintro e w3 ⟨v3, n3, L3, rfl, hO3, hL3, hb3⟩
        have HL3 := Lib.hid (show L3.map Prod.fst = shortS (tof tc f) (i + 1) by rw [hL3, HL.out, join_short Hm.out])
        have hB3 : Below w.heap.size w w3 := hB2.trans hb3
        clear hL3
        go_wp2
        go_roundw
        case rel => exact ⟨i + 1, n3, L3, by omega, by go_num, hO3, HL3.out, hB3⟩
        case measure => simp [intOf]; omega
      | false =>
        rw [htc] at hc'
        have Hm := Lib.hid (show shortS (tof tc f) (i + 1) = shortS (tof tc f) i by
          show stepS _ _ _ (tof tc f i) = _
          unfold tof
          rw [htc]
          rfl)
        clear htc
        go_wp2
        go_roundw
        case rel => exact ⟨i + 1, nn, L, by omega, by go_num, hO, by rw [Hm.out]; exact hLm, hb⟩
        case measure => simp [intOf]; omega
    · have hin : (n : Int) ≤ (i : Int) := by omega
      have hen : i = n := by omega
      have HL := Lib.hid (show L.map Prod.fst = shortS (tof tc f) n by rw [← hen]; exact hLm)
      clear hLm hen
      go_wp2
      go_ret
      exact ⟨_, nn, L, rfl, hO, HL.out, hb⟩
end
end Blo
end Go.Proofs.Ytfdfjnepfgabaaa

/- The document's Right, of layer 4. -/
import Derived.Test.YtlpbdnncbinbmaaWalU
namespace Go.Proofs.Ytlpbdnncbinbmaa
open Go.ChangeShapes Go.WideShapes Go.ChangeAt Go.RowKit Go.Maps

theorem nodup_le : ∀ (n : Nat) (l : List Nat), l.Nodup → (∀ x ∈ l, x < n) → l.length ≤ n
  | 0, l, _, h => by
    cases l with
    | nil => exact Nat.le_refl _
    | cons x l => exact absurd (h x (List.mem_cons_self ..)) (by omega)
  | n + 1, l, hd, h => by
    by_cases hm : n ∈ l
    · have h1 := nodup_le n (l.erase n) (hd.erase n) (fun x hx => by
        have h2 := (hd.mem_erase_iff).1 hx
        have := h x h2.2
        have := h2.1
        omega)
      rw [List.length_erase_of_mem hm] at h1
      omega
    · have := nodup_le n l hd (fun x hx => by
        have := h x hx
        have : x ≠ n := fun e => hm (e ▸ hx)
        omega)
      omega
theorem fresh_le {l : List Upd} {k n : Nat} (hk : k ≤ l.length) (hf : freshU l k) (hb : ∀ u ∈ l, ¬ badU n u) : k ≤ n := by
  have h1 := nodup_le n ((List.range k).map fun j => (if hj : j < l.length then l[j].1.toNat else 0)) ?_ ?_
  · simpa using h1
  · rw [List.nodup_iff_pairwise_ne, List.pairwise_map]
    refine List.Pairwise.imp_of_mem ?_ (List.pairwise_lt_range)
    intro a c ha hc hac
    have ha' := List.mem_range.1 ha
    have hc' := List.mem_range.1 hc
    rw [dif_pos (show a < l.length by omega), dif_pos (show c < l.length by omega)]
    intro e
    have b1 := hb _ (List.getElem_mem (show a < l.length by omega))
    have b2 := hb _ (List.getElem_mem (show c < l.length by omega))
    unfold badU at b1 b2
    exact hf c (by omega) a hac hc' (by omega)
  · intro x hx
    obtain ⟨j, hj, rfl⟩ := List.mem_map.1 hx
    have hj' := List.mem_range.1 hj
    rw [dif_pos (show j < l.length by omega)]
    have b1 := hb _ (List.getElem_mem (show j < l.length by omega))
    unfold badU at b1
    omega
set_option maxRecDepth 100000 in
set_option maxHeartbeats 4000000 in
theorem right_ (bm n c num lo hi : Nat) (A B : Option Addr) (un uc : Nat) (l : List Upd) (w : World) (hm : Blk w bm 30 (mdC (.slice A n c) num)) (hU : Uss w lo hi B un l) (hn : n < 300) (hun : un ≤ 9223372036854775806) :
    Calls Try.prog 14 #[.pointer (some ⟨bm, 0, none⟩), .slice B un uc] w fun e w' => e = .returned (.int .i64 ((rightE n l : Nat) : Int)) ∧ Below w.heap.size w w' := by
  have Hn := Lib.hid hU.1
  have hml := hm.lt
  have hn' : (n : Int) < 300 := by omega
  go_enter Try.func14, Try.ntmps14
  go_wp2_with fail
  go_loopw [5] (fun i wr => ∃ m : Nat, m ≤ un ∧ i = .int .i64 (m : Int) ∧ (∀ j (hj : j < l.length), j < m → ¬ badU n l[j]) ∧ Below w.heap.size w wr) (fun i _ => un - (intOf i).toNat)
  case atStart => exact ⟨0, Nat.zero_le _, rfl, fun j _ h => by omega, Below.refl _ _⟩
  case round =>
    obtain ⟨m, hm1, rfl, hok, hB⟩ := hrel
    have hzw := hB.size
    have c0 := (hm.keep hB).cell (j := 0) (u := .slice A n c) rfl
    by_cases hlt : m < un
    · obtain ⟨q, o, X, xn, xc, rfl, hx, hc0, hc1, hb, hX, hnc, hcm, hXo, hbo⟩ := (hU.below hB).at_ hlt
      have hxl := hb.len
      have HR := Lib.hid (fun (e : badU n l[m]) => rightE_bad (m := n) (l := l) ⟨l[m], List.getElem_mem hx, e⟩)
      have HBD := Lib.hid (show badU n l[m] ↔ (l[m].1 < 0 ∨ (n : Int) ≤ l[m].1 ∨ 48 < xn) by unfold badU; rw [hxl])
      have hmu : (m : Int) < (un : Int) := by omega
      clear hxl hb
      generalize l[m].1 = a at *
      by_cases h1 : a < 0
      · have HR1 := Lib.hid (HR.out (HBD.out.2 (.inl h1)))
        have d1 : decide (a < 0) = true := decide_eq_true h1
        go_wp2_with fail
        go_quiet (fail)
        go_wp2
        go_ret
        rw [HR1.out]
        exact ⟨rfl, below_drewN hB _⟩
      · have d1 : decide (a < 0) = false := decide_eq_false h1
        by_cases h2 : (n : Int) ≤ a
        · have HR1 := Lib.hid (HR.out (HBD.out.2 (.inr (.inl h2))))
          have d2 : decide ((n : Int) ≤ a) = true := decide_eq_true h2
          go_wp2_with fail
          go_quiet (fail)
          go_wp2
          go_ret
          rw [HR1.out]
          exact ⟨rfl, below_drewN hB _⟩
        · have d2 : decide ((n : Int) ≤ a) = false := decide_eq_false h2
          by_cases h3 : (48 : Int) < (xn : Int)
          · have HR1 := Lib.hid (HR.out (HBD.out.2 (.inr (.inr (by omega)))))
            go_wp2_with fail
            go_quiet (fail)
            go_wp2
            go_ret
            rw [HR1.out]
            exact ⟨rfl, below_drewN hB _⟩
          · have HR1 := Lib.hid (show ¬ badU n l[m] from fun e => by rcases HBD.out.1 e with h | h | h <;> omega)
            go_wp2_with fail
            go_quiet (fail)
            go_wp2
            go_roundw
            case rel =>
              refine ⟨m + 1, by omega, by go_num, fun j hj hjm => ?_, below_drewN hB _⟩
              by_cases e : j = m
              · subst e; exact HR1.out
              · exact hok j hj (by omega)
            case measure => simp [intOf]; omega
    · have hall : ∀ u ∈ l, ¬ badU n u := fun u hu => by
        obtain ⟨j, hj, rfl⟩ := List.getElem_of_mem hu
        exact hok j hj (by rw [← Hn.out] at hj; omega)
      have hB1 := hB
      obtain ⟨wo, rfl⟩ : ∃ wo : World, wo = wr := ⟨_, rfl⟩
      have hlt' : ¬ (m : Int) < (un : Int) := by omega
      clear c0
      go_wp2_with fail
      go_loopw [6] (fun i wr => ∃ a : Nat, a ≤ un ∧ a ≤ 300 ∧ i = .int .i64 (a : Int) ∧ freshU l a ∧ Below w.heap.size w wr) (fun i _ => un - (intOf i).toNat)
      case atStart => exact ⟨0, Nat.zero_le _, by omega, rfl, fun i _ j _ h => by omega, hB1⟩
      case round =>
        obtain ⟨a, ha, ha3, rfl, hfr, hB2⟩ := hrel
        clear hB hB1 hok
        have hz2 := hB2.size
        by_cases hau : a < un
        · by_cases ha300 : a < 300
          · have t1 : (a : Int) < (un : Int) := by omega
            have t2 : (a : Int) < 300 := by omega
            obtain ⟨w2, rfl⟩ : ∃ w2 : World, w2 = wr := ⟨_, rfl⟩
            go_wp2_with fail
            go_loopw [7] (fun i wr => ∃ b : Nat, b ≤ a ∧ i = .int .i64 (b : Int) ∧ (∀ j (hj : j < b) (hb : b ≤ a) (hx : a < l.length), l[a].1 ≠ (l[j]'(by omega)).1) ∧ Below w.heap.size w wr) (fun i _ => a - (intOf i).toNat)
            case atStart => exact ⟨0, Nat.zero_le _, rfl, fun j h => by omega, hB2⟩
            case round =>
              obtain ⟨b, hb, rfl, hne, hB3⟩ := hrel
              have hz3 := hB3.size
              by_cases hba : b < a
              · have t3 : (b : Int) < (a : Int) := by omega
                have t4 : (b : Int) < (un : Int) := by omega
                obtain ⟨q, o, X, xn, xc, rfl, hx, hc0, hc1, _, _⟩ := (hU.below hB3).at_ hau
                obtain ⟨q', o', X', xn', xc', he, hx', hc0', hc1', _, _⟩ := (hU.below hB3).at_ (show b < un by omega)
                injection he with he
                injection he with he1 he2
                subst he1 he2
                by_cases heq : l[a].1 = l[b].1
                · have HR1 := Lib.hid (rightE_twice (m := n) hall ⟨a, hx, b, hba, heq⟩)
                  rw [heq] at hc0
                  clear heq hc1 hc1'
                  go_wp2_with fail
                  go_quiet (fail)
                  go_wp2
                  go_ret
                  rw [HR1.out]
                  exact ⟨rfl, below_drewN hB3 _⟩
                · have hne2 : ∀ j (hj : j < b + 1) (hb : b + 1 ≤ a) (hx : a < l.length), l[a].1 ≠ (l[j]'(by omega)).1 := fun j hj hb' hx => by
                    by_cases e : j = b
                    · subst e; exact heq
                    · exact hne j (by omega) (by omega) hx
                  have HNE := Lib.hid hne2
                  obtain ⟨u, hu⟩ : ∃ u, l[a].1 = u := ⟨_, rfl⟩
                  obtain ⟨v, hv⟩ : ∃ v, l[b].1 = v := ⟨_, rfl⟩
                  rw [hu] at hc0 heq
                  rw [hv] at hc0' heq
                  clear hne hne2 hu hv hc1 hc1'
                  go_wp2_with fail
                  go_quiet (fail)
                  go_wp2
                  go_roundw
                  case rel => exact ⟨b + 1, by omega, by go_num, HNE.out, below_drewN hB3 _⟩
                  case measure => simp [intOf]; omega
              · obtain rfl : b = a := by omega
                have hfr2 : freshU l (b + 1) := fun i hi j hj hib => by
                  by_cases e : i = b
                  · subst e; exact hne j hj (Nat.le_refl _) hi
                  · exact hfr i hi j hj (by omega)
                have HF := Lib.hid hfr2
                clear hfr2 hne hfr
                go_wp2
                go_roundw
                case rel => exact ⟨b + 1, by omega, by omega, by go_num, HF.out, hB3⟩
                case measure => simp [intOf]; omega
          · have := fresh_le (n := n) (by have := Hn.out; omega) hfr hall
            omega
        · have hnt : ¬ twiceU l := fun ⟨i, hi, j, hj, e⟩ => hfr i hi j hj (by have := Hn.out; omega) e
          have hr := rightE_many (m := n) hall hnt
          have t1 : ¬ (a : Int) < (un : Int) := by omega
          clear hfr
          by_cases h6 : 6 < l.length
          · rw [if_pos h6] at hr
            have HR1 := Lib.hid hr
            have h6' : (6 : Int) < (un : Int) := by have := Hn.out; omega
            clear hr h6
            go_wp2
            go_ret
            rw [HR1.out]
            exact ⟨rfl, hB2⟩
          · rw [if_neg h6] at hr
            have HR1 := Lib.hid hr
            have h6' : ¬ (6 : Int) < (un : Int) := by have := Hn.out; omega
            clear hr h6
            go_wp2
            go_ret
            rw [HR1.out]
            exact ⟨rfl, hB2⟩
end Go.Proofs.Ytlpbdnncbinbmaa

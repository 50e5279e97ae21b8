/- Package wal: check, Commit. -/
import Derived.Test.YtlpbdnncbinbmaaWalG
namespace Go.Proofs.Ytlpbdnncbinbmaa
open Go.RowKit Go.Maps

/-! ### check -/
/-- Which of the first places are taken by the first k updates. -/
def takenC (l : List Upd) (k : Nat) : List Value := (List.range 256).map fun (p : Nat) => .bool (decide (∃ u ∈ l.take k, u.1 = (p : Int)))
theorem takenC_length (l : List Upd) (k : Nat) : (takenC l k).length = 256 := by simp [takenC]
theorem takenC_at (l : List Upd) (k p : Nat) (hp : p < 256) : (takenC l k)[p]? = some (.bool (decide (∃ u ∈ l.take k, u.1 = (p : Int)))) := by
  unfold takenC
  rw [List.getElem?_map, List.getElem?_range hp]
  rfl
theorem takenC_zero (l : List Upd) : takenC l 0 = List.replicate 256 (.bool false) := by
  apply List.ext_getElem?
  intro p
  by_cases hp : p < 256
  · rw [takenC_at l 0 p hp, List.getElem?_replicate, if_pos hp]
    simp
  · rw [List.getElem?_eq_none (by rw [takenC_length]; omega), List.getElem?_eq_none (by rw [List.length_replicate]; omega)]
theorem takenC_succ (l : List Upd) (k a : Nat) (hk : k < l.length) (ha : l[k].1 = (a : Int)) : takenC l (k + 1) = (takenC l k).set a (.bool true) := by
  apply List.ext_getElem?
  intro p
  by_cases hp : p < 256
  · rw [takenC_at l _ p hp, List.getElem?_set, takenC_at l _ p hp, takenC_length]
    rw [List.take_succ_eq_append_getElem hk]
    by_cases e : a = p
    · subst e
      rw [if_pos rfl, if_pos hp]
      congr 2
      rw [decide_eq_true_eq]
      exact ⟨l[k], List.mem_append_right _ (List.mem_singleton.2 rfl), ha⟩
    · rw [if_neg e]
      congr 2
      rw [decide_eq_decide]
      constructor
      · rintro ⟨u, hu, h⟩
        rcases List.mem_append.1 hu with hu | hu
        · exact ⟨u, hu, h⟩
        · rw [List.mem_singleton] at hu; subst hu; omega
      · rintro ⟨u, hu, h⟩
        exact ⟨u, List.mem_append_left _ hu, h⟩
  · rw [List.getElem?_eq_none (by rw [takenC_length]; omega), List.getElem?_eq_none (by rw [List.length_set, takenC_length]; omega)]
theorem info_taken : (Try.prog.info? 90).map (fun i => (i.zero, i.size, i.bytes)) = some (some (.agg (List.replicate 256 (Value.bool false)).toArray), 256, 256) := by kernel_rfl
theorem rightE_bad {m : Nat} {l : List Upd} (h : ∃ u ∈ l, badU m u) : rightE m l = 1 := by unfold rightE; rw [if_pos h]
theorem rightE_twice {m : Nat} {l : List Upd} (h : ∀ u ∈ l, ¬ badU m u) (h2 : twiceU l) : rightE m l = 10 := by unfold rightE; rw [if_neg (fun ⟨u, hu, hb⟩ => h u hu hb), if_pos h2]
theorem rightE_many {m : Nat} {l : List Upd} (h : ∀ u ∈ l, ¬ badU m u) (h2 : ¬ twiceU l) : rightE m l = if 6 < l.length then 6 else 0 := by unfold rightE; rw [if_neg (fun ⟨u, hu, hb⟩ => h u hu hb), if_neg h2]

/-- No two of the first k updates are of a place. -/
def freshU (l : List Upd) (k : Nat) : Prop := ∀ i (hi : i < l.length) j (hj : j < i), i < k → l[i].1 ≠ (l[j]'(by omega)).1
set_option maxRecDepth 100000 in
set_option maxHeartbeats 4000000 in
theorem check_ (g b : Nat) (s : DS) (nl lo hi : Nat) (A : Option Addr) (n c : Nat) (l : List Upd) (w : World) (h : Lk w g b s nl) (hU : Uss w lo hi A n l) (hn : n ≤ 9223372036854775807) :
    Calls Try.prog 32 #[.pointer (some ⟨b, 0, none⟩), .slice A n c] w fun e w' => e = .returned (.int .i64 ((rightE (s.n - 9) l : Nat) : Int)) ∧ Below w.heap.size w w' := by
  obtain ⟨iz, hiz, hiz0, _, _⟩ := info_parts info_taken
  have hmost := h.disk.most
  have Hn := Lib.hid hU.1
  go_enter Try.func32, Try.ntmps32
  go_wp2_with fail
  go_loopw [12] (fun i wr => ∃ m : Nat, m ≤ n ∧ i = .int .i64 (m : Int) ∧ (∀ j (hj : j < l.length), j < m → ¬ badU (s.n - 9) l[j]) ∧ Below w.heap.size w wr) (fun i _ => n - (intOf i).toNat)
  case atStart => exact ⟨0, Nat.zero_le _, rfl, fun j _ h => by omega, Below.refl _ _⟩
  case round =>
    obtain ⟨m, hm, rfl, hok, hB⟩ := hrel
    have hzw := hB.size
    by_cases hlt : m < n
    · obtain ⟨q, o, X, xn, xc, rfl, hx, hc0, hc1, hb, hX, hnc, hcm, hXo, hbo⟩ := (hU.below hB).at_ hlt
      have hxl := hb.len
      have hR := fun (e : badU (s.n - 9) l[m]) => rightE_bad (m := s.n - 9) (l := l) ⟨l[m], List.getElem_mem hx, e⟩
      have HR := Lib.hid hR
      have hbd : badU (s.n - 9) l[m] ↔ (inP (s.n - 9) l[m].1 = false ∨ 48 < xn) := by
        unfold badU inP
        rw [decide_eq_false_iff_not, hxl]
        omega
      have HBD := Lib.hid hbd
      clear hR hbd hxl
      go_wp2_with fail
      refine (lhas_ g b s nl _ l[m].1 ((h.below hB).alloc _)).mono ?_
      rintro e w' ⟨rfl, rfl⟩
      cases hin : inP (s.n - 9) l[m].1 with
      | false =>
        have HR1 := Lib.hid (HR.out (HBD.out.2 (.inl hin)))
        clear hin
        go_wp2
        go_ret
        rw [HR1.out]
        exact ⟨rfl, by go_grown⟩
      | true =>
        by_cases h48 : 48 < xn
        · have HR1 := Lib.hid (HR.out (HBD.out.2 (.inr h48)))
          have h48' : (48 : Int) < (xn : Int) := by omega
          clear hin
          go_wp2
          go_ret
          rw [HR1.out]
          exact ⟨rfl, by go_grown⟩
        · have HR1 := Lib.hid (show ¬ badU (s.n - 9) l[m] from fun e => by
            rcases HBD.out.1 e with h | h
            · rw [h] at hin; cases hin
            · exact h48 h)
          have h48' : ¬ (48 : Int) < (xn : Int) := by omega
          clear hin
          go_wp2
          go_roundw
          case rel =>
            refine ⟨m + 1, by omega, by go_num, fun j hj hjm => ?_, by go_grown⟩
            by_cases e : j = m
            · subst e; exact HR1.out
            · exact hok j hj (by omega)
          case measure => simp [intOf]; omega
    · have hall : ∀ u ∈ l, ¬ badU (s.n - 9) u := fun u hu => by
        obtain ⟨j, hj, rfl⟩ := List.getElem_of_mem hu
        exact hok j hj (by rw [← Hn.out] at hj; omega)
      obtain ⟨wo, rfl⟩ : ∃ wo : World, wo = wr := ⟨_, rfl⟩
      go_wp2_with (first
        | (refine wpList_alloc_blk _ rfl 90 rfl iz _ hiz hiz0 ?_
           intro w2 hk2 hb2 hs2)
        | fail)
      have hk2' : Blk w2 wo.heap.size 90 (takenC l 0).toArray := by rw [takenC_zero]; exact hk2
      have hB2 : Below w.heap.size w w2 := hB.trans (hb2.mono hB.size)
      have hzo := hB.size
      clear hk2 hb2
      go_loopw [30] (fun i wr => ∃ k : Nat, k ≤ n ∧ i = .int .i64 (k : Int) ∧ Blk wr wo.heap.size 90 (takenC l k).toArray ∧ freshU l k ∧ Below w.heap.size w wr) (fun i _ => n - (intOf i).toNat)
      case atStart => exact ⟨0, Nat.zero_le _, rfl, hk2', fun i _ j _ h => by omega, hB2⟩
      case round =>
        obtain ⟨k, hk, rfl, hbk, hfr, hBk⟩ := hrel
        have hzk := hBk.size
        clear hk2' hB2
        by_cases hlt2 : k < n
        · obtain ⟨q, o, X, xn, xc, rfl, hx, hc0, hc1, hb, hX, hnc, hcm, hXo, hbo⟩ := (hU.below hBk).at_ hlt2
          have hbad := hall _ (List.getElem_mem hx)
          unfold badU at hbad
          obtain ⟨a, ha⟩ : ∃ a : Nat, l[k].1 = (a : Int) := ⟨l[k].1.toNat, by omega⟩
          rw [ha] at hbad hc0
          have ha1 : (a : Int) < 256 := by omega
          have hat := takenC_at l k a (by omega)
          have hsuc := Lib.hid (takenC_succ l k a hx ha)
          have hcell := hbk.cell (j := a) (u := .bool (decide (∃ u ∈ l.take k, u.1 = (a : Int)))) (by simpa using hat)
          have hfree := hbk.free a
          have hlb := hbk.lt
          have hiff : (∃ u ∈ l.take k, u.1 = (a : Int)) ↔ ∃ j, ∃ hj : j < k, l[k].1 = (l[j]'(by omega)).1 := by
            constructor
            · rintro ⟨u, hu, h⟩
              obtain ⟨j, hj, rfl⟩ := List.getElem_of_mem hu
              rw [List.length_take] at hj
              exact ⟨j, by omega, by rw [ha, ← h, List.getElem_take]⟩
            · rintro ⟨j, hj, h⟩
              exact ⟨l[j], List.mem_take_iff_getElem.2 ⟨j, by omega, rfl⟩, by rw [← h, ha]⟩
          have HIFF := Lib.hid hiff
          have HA := Lib.hid ha
          clear hiff hat ha hbad hb
          cases hd : decide (∃ u ∈ l.take k, u.1 = (a : Int)) with
          | true =>
            rw [hd] at hcell
            have HR1 := Lib.hid (rightE_twice (m := s.n - 9) hall (by
              obtain ⟨j, hj, e⟩ := HIFF.out.1 (of_decide_eq_true hd)
              exact ⟨k, hx, j, hj, e⟩))
            clear hd
            go_wp2
            go_ret
            rw [HR1.out]
            exact ⟨rfl, by go_grown⟩
          | false =>
            rw [hd] at hcell
            have HF := Lib.hid (show freshU l (k + 1) from fun i hi j hj hik => by
              by_cases e : i = k
              · subst e
                intro e2
                exact of_decide_eq_false hd (HIFF.out.2 ⟨j, hj, e2⟩)
              · exact hfr i hi j hj (by omega))
            clear hd
            go_wp2
            go_roundw
            case rel =>
              refine ⟨k + 1, by omega, by go_num, ?_, HF.out, ?_⟩
              · rw [hsuc.out]
                have := (hbk.setCell a (.bool true)).alloc (.cells #[.int .i64 (a : Int), .slice X xn xc] 67)
                simpa using this
              · exact (hBk.grown (grown_setCell wr ⟨wo.heap.size, a, none⟩ (.bool true)) hzk (fun j e => by simp at e; omega)).alloc (by simp only [World.size_setCell]; exact hzk) _
            case measure => simp [intOf]; omega
        · have hnt : ¬ twiceU l := fun ⟨i, hi, j, hj, e⟩ => hfr i hi j hj (by have := Hn.out; omega) e
          have hr := rightE_many (m := s.n - 9) hall hnt
          by_cases h6 : 6 < l.length
          · rw [if_pos h6] at hr
            have HR1 := Lib.hid hr
            have h6' : (6 : Int) < (n : Int) := by have := Hn.out; omega
            clear hr h6
            go_wp2
            go_ret
            rw [HR1.out]
            exact ⟨rfl, by go_grown⟩
          · rw [if_neg h6] at hr
            have HR1 := Lib.hid hr
            have h6' : ¬ (6 : Int) < (n : Int) := by have := Hn.out; omega
            clear hr h6
            go_wp2
            go_ret
            rw [HR1.out]
            exact ⟨rfl, by go_grown⟩

/-! ### Commit -/
theorem rightE_zero {m : Nat} {l : List Upd} (h : rightE m l = 0) : (∀ u ∈ l, ¬ badU m u) ∧ l.length ≤ 6 := by
  unfold rightE at h
  split at h
  · cases h
  · rename_i h1
    split at h
    · cases h
    · split at h
      · cases h
      · exact ⟨fun u hu hb => h1 ⟨u, hu, hb⟩, by omega⟩
/-- What Commit comes to, when the change may be. -/
def Done (g b : Nat) (s : DS) (t n : Nat) (P : Nat → List UInt8) (l : List Upd) (e : Ending) (w' : World) (s' : DS) : Prop :=
  (∃ t', t < t' ∧ t' ≤ t + 2 ∧ e = .returned (.int .i64 0) ∧ St s' t' (n + 1) (doneP l P) ∧ Lk w' g b s' (n + 1)) ∨
  (e = .returned (.int .i64 8) ∧ 0 ≤ s.fuse ∧ s'.on = false ∧ Lk w' g b s' n ∧ ∀ keep, ∃ t', t ≤ t' ∧ t' ≤ t + 2 ∧ (Jn (s'.woken keep) s.n t' n P ∨ Jn (s'.woken keep) s.n t' (n + 1) (doneP l P)))
set_option maxRecDepth 100000 in
set_option maxHeartbeats 2000000 in
theorem commit_bad (g b : Nat) (s : DS) (n lo hi : Nat) (A : Option Addr) (un c : Nat) (l : List Upd) (w : World) (h : Lk w g b s n) (hU : Uss w lo hi A un l) (hun : un ≤ 9223372036854775807) (hr : rightE (s.n - 9) l ≠ 0) :
    Calls Try.prog 15 #[.pointer (some ⟨b, 0, none⟩), .slice A un c] w fun e w' => e = .returned (.int .i64 ((rightE (s.n - 9) l : Nat) : Int)) ∧ Below w.heap.size w w' := by
  have hc := check_ g b s n lo hi A un c l w h hU hun
  generalize rightE (s.n - 9) l = E at *
  have hr' : ¬ (E : Int) = 0 := by omega
  go_enter Try.func15, Try.ntmps15
  go_wp2_with fail
  refine (lmade_ g b s n w h).mono ?_
  rintro e w' ⟨rfl, rfl⟩
  go_wp2_with fail
  refine hc.mono ?_
  rintro e w' ⟨rfl, hb⟩
  go_wp2
  go_ret
  exact ⟨rfl, hb⟩
set_option maxRecDepth 100000 in
set_option maxHeartbeats 4000000 in
theorem commit_ (g b : Nat) (s : DS) (t n : Nat) (P : Nat → List UInt8) (A : Option Addr) (un c : Nat) (l : List Upd) (w : World) (h : Lk w g b s n) (hs : St s t n P) (hU : Uss w g (b + 1) A un l) (hun : un ≤ 9223372036854775807) (hr : rightE (s.n - 9) l = 0) (ht : t + 2 ≤ topN) (hn : n + 1 ≤ topN) :
    Calls Try.prog 15 #[.pointer (some ⟨b, 0, none⟩), .slice A un c] w fun e w' => ∃ s', Fz s s' ∧ Tl g b w w' ∧ Done g b s t n P l e w' s' := by
  have hc := check_ g b s n g (b + 1) A un c l w h hU hun
  rw [hr, show ((0 : Nat) : Int) = 0 from rfl] at hc
  have HG := Lib.hid (rightE_zero hr)
  have HR := Lib.hid hr
  have htop : t + 2 ≤ 4611686018427387904 := ht
  have htop2 : n + 1 ≤ 4611686018427387904 := hn
  have hblt := h.lt
  have hN := h.least
  have hun6 : (un : Int) ≤ 6 := by have := hU.1; have := HG.out.2; omega
  clear hr
  go_enter Try.func15, Try.ntmps15
  go_wp2_with fail
  refine (lmade_ g b s n w h).mono ?_
  rintro e w' ⟨rfl, rfl⟩
  go_wp2_with fail
  refine hc.mono ?_
  rintro e w1 ⟨rfl, hb1⟩
  go_wp2_with fail
  refine (look_set g b s n t n P _ (h.below hb1) hs (by omega) (by omega)).mono ?_
  rintro e w2 ⟨rfl, ht2, h2⟩
  have hU2 : Uss w2 g (b + 1) A un l := (hU.below hb1).tn ht2 (by omega) (Nat.le_refl _)
  have hT2 : Tl g b w w2 := (Tl.ofBelow hb1).trans (.log ht2)
  have hz2 := hT2.size
  have h3 := h2.alloc (hdO (t, n, 0))
  have hU3 : Uss (w2.alloc (hdO (t, n, 0))) g (b + 1) A un l := hU2.below ((Below.refl _ _).alloc (Nat.le_refl _) _)
  have hp3 : Blk (w2.alloc (hdO (t, n, 0))) w2.heap.size 76 (hdC (t, n, 0)) := Blk.new w2 _ _ rfl
  have hT3 : Tl g b w (w2.alloc (hdO (t, n, 0))) := hT2.trans (Tl.alloc _ _)
  have c0 := h2.log.cell (j := 0) (u := .pointer (some ⟨g + 2, 0, none⟩)) rfl
  have hbl := h2.blt
  have hne : b ≠ w2.heap.size := by omega
  go_wp2_with fail
  have hUN := hU.1
  clear hc hU hb1 ht2 c0
  generalize (w2.alloc (hdO (t, n, 0))) = w3 at *
  have hran := noteW hs.up hN hs.hd hs.dat HR.out
  refine (note_ g s A un c l w3 h3.disk hN HG.out.1 HG.out.2 (hU3.wide (Nat.le_refl _) (by omega))).mono ?_
  clear hs hU2 hU3 hT2 h2
  rintro e w4 ⟨rfl, hd4, ht4⟩
  have HUN := Lib.hid (show un = l.length from hUN)
  clear hUN
  obtain ⟨R1, s4, hR⟩ : ∃ R1 s4, wrsF (noteL l) s = (R1, s4) := ⟨_, _, rfl⟩
  rw [hR] at hran hd4 ⊢
  clear hR
  have hT4 := hT3.trans (.disk ht4)
  have hL4 := ht4.blk h3.log (.inr hblt)
  have hp4 := ht4.blk hp3 (.inr (by omega))
  have hz4 := hT4.size
  have hgl := h.disk.lt
  clear h3 hp3 hT3 ht4
  obtain ⟨e0, hup, ⟨hh4, hd40, hdl⟩, hfz⟩ | ⟨e8, hf, hoff, hQ, hfz⟩ := hran
  · simp only at e0 hup hh4 hd40 hdl hfz
    subst e0
    have hn4 := hfz.n
    have c0 := hL4.cell (j := 0) (u := .pointer (some ⟨g + 2, 0, none⟩)) rfl
    have p0 := hp4.cell (j := 0) (u := .int .i64 (t : Int)) rfl
    have p1 := hp4.cell (j := 1) (u := .int .i64 (n : Int)) rfl
    have p2 := hp4.cell (j := 2) (u := .int .i64 0) rfl
    have hbl4 := hL4.lt
    have hpl4 := hp4.lt
    have hran2 := headW (n' := n + 1) (k' := un) hup (by omega) hh4 (by rw [hn4]; exact hd40) (P' := doneP l P) (by rw [hn4, HUN.out]; exact hdl) (by omega) (by omega) (by have := HG.out.2; have := HUN.out; omega)
    have hwp : IntKind.i64.wrap ((n : Int) + 1) = ((n + 1 : Nat) : Int) := by rw [IntKind.wrap_i64]; omega
    go_wp2_with fail
    go_region_held3 (fun w' => w'.cell? ⟨b, 0, none⟩ = some (.pointer (some ⟨g + 2, 0, none⟩)) ∧ w'.cell? ⟨w2.heap.size, 0, none⟩ = some (.int .i64 (t : Int)) ∧ w'.cell? ⟨w2.heap.size, 1, none⟩ = some (.int .i64 (n : Int)) ∧ w'.cell? ⟨w2.heap.size, 2, none⟩ = some (.int .i64 0))
      (first | go_keep | exact ⟨c0, p0, p1, p2⟩ | exact ⟨(hb5.cell (show b < _ from hbl4)).trans c0, (hb5.cell (show w2.heap.size < _ from hpl4)).trans p0, (hb5.cell (show w2.heap.size < _ from hpl4)).trans p1, (hb5.cell (show w2.heap.size < _ from hpl4)).trans p2⟩ | exact ⟨ht6.cell ((hb5.cell (show b < _ from hbl4)).trans c0) (.inr hblt), ht6.cell ((hb5.cell (show w2.heap.size < _ from hpl4)).trans p0) (.inr (by show g + 3 ≤ w2.heap.size; omega)), ht6.cell ((hb5.cell (show w2.heap.size < _ from hpl4)).trans p1) (.inr (by show g + 3 ≤ w2.heap.size; omega)), ht6.cell ((hb5.cell (show w2.heap.size < _ from hpl4)).trans p2) (.inr (by show g + 3 ≤ w2.heap.size; omega))⟩)
      (first
        | (go_at_call 35; refine (next_ t n 0 (n + 1) un _ (by omega)).mono ?_; rintro e w5 ⟨rfl, hb5⟩)
        | (go_at_call 36; refine (headWrite_ g s4 (t + 1) (n + 1) un _ (hd4.drew.below hb5) (by omega) (by omega) (by omega) (by omega)).mono ?_; rintro e w6 ⟨rfl, hd6, ht6⟩))
    obtain ⟨R1, s6, hR⟩ : ∃ R1 s6, wrsF [((t + 1) % 2, secOf (headB (t + 1) (n + 1) un))] s4 = (R1, s6) := ⟨_, _, rfl⟩
    rw [hR] at hran2 hd6 ⊢
    clear hR
    have hT6 : Tl g b w w6 := (hT4.drewR.trans (Tl.ofBelow hb5)).trans (.disk ht6)
    have hL6 := ht6.blk (show Blk w5 b _ _ from (show Blk w4.drew b _ _ from hL4).keep hb5) (.inr hblt)
    clear hL4 hp4 hd4 hb5 ht6 hT4
    obtain ⟨e0, hup6, ⟨hh6, hd60⟩, hfz6⟩ | ⟨e8, hf, hoff, hQ, hfz6⟩ := hran2
    · simp only at e0 hup6 hh6 hd60 hfz6
      subst e0
      have hLk6 : Lk w6 g b s6 n := ⟨hd6, hL6, hblt, by rw [hfz6.n, hn4]; exact hN⟩
      go_wp2_with fail
      refine (look_ g b s6 n (t + 1) (n + 1) (doneP l P) _ hLk6 hup6 ⟨un, hh6, by rw [hfz6.n]; exact hd60⟩ (by omega) (by omega)).mono ?_
      rintro e w7 ⟨s7, hfz7, hT7, hS, hL7⟩
      have hn7 : s6.n = s.n := hfz6.n.trans hn4
      obtain ⟨t', ht1', ht2', rfl, hup, hh, hdt⟩ | ⟨rfl, hf, hoff, hQ⟩ := hS
      · rw [if_pos hup.on] at hL7
        go_wp2
        go_ret
        exact ⟨s7, (hfz.trans hfz6).trans hfz7, hT6.trans hT7, .inl ⟨t', by omega, by omega, rfl, ⟨hup, hh, by rw [hfz7.n]; exact hdt⟩, hL7⟩⟩
      · rw [if_neg (by rw [hoff]; decide)] at hL7
        go_wp2
        go_ret
        refine ⟨s7, (hfz.trans hfz6).trans hfz7, hT6.trans hT7, .inr ⟨rfl, (hfz.trans hfz6).neg hf, hoff, hL7, fun keep => ?_⟩⟩
        obtain ⟨t', h1, h2, h3⟩ := hQ keep
        exact ⟨t', by omega, by omega, .inr (by rw [← hn7]; exact h3)⟩
    · simp only at e8 hoff hQ hfz6
      subst e8
      go_wp2
      go_ret
      refine ⟨s6, hfz.trans hfz6, hT6, .inr ⟨rfl, hfz.neg hf, hoff, ⟨hd6, hL6, hblt, by rw [hfz6.n, hn4]; exact hN⟩, fun keep => ?_⟩⟩
      rw [hn4] at hQ
      rcases hQ keep with h | h
      · exact ⟨t, by omega, by omega, .inl h⟩
      · exact ⟨t + 1, by omega, by omega, .inr h⟩
  · simp only at e8 hoff hQ hfz
    subst e8
    go_wp2
    go_ret
    exact ⟨s4, hfz, hT4, .inr ⟨rfl, hf, hoff, ⟨hd4, hL4, hblt, by rw [hfz.n]; exact hN⟩, fun keep => ⟨t, by omega, by omega, .inl (hQ keep)⟩⟩⟩
end Go.Proofs.Ytlpbdnncbinbmaa

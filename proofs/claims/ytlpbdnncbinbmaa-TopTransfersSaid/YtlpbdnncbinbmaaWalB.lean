/- Package wal: head.next, head.write, newest. -/
import Derived.Test.YtlpbdnncbinbmaaWalA
import Derived.Deep.RegionHeld3
import Derived.StillTailTactics
namespace Go.Proofs.Ytlpbdnncbinbmaa
open Go.RowKit Go.Maps

/-- A head as a value. -/
abbrev hdV (t n k : Nat) : Value := .agg #[.int .i64 (t : Int), .int .i64 (n : Int), .int .i64 (k : Int)]
set_option maxRecDepth 100000 in
set_option maxHeartbeats 1000000 in
theorem next_ (t n k n' k' : Nat) (w : World) (ht : t < 9223372036854775807) :
    Calls Try.prog 35 #[hdV t n k, .int .i64 (n' : Int), .int .i64 (k' : Int)] w fun e w' => e = .returned (hdV (t + 1) n' k') ∧ Below w.heap.size w w' := by
  have ht' : (t : Int) < 9223372036854775807 := by omega
  go_enter Try.func35, Try.ntmps35
  go_wp2
  refine bodyPost_ret (v := hdV (t + 1) n' k') (by simp [results, Try.results35, go_sem]) rfl ?_
  exact ⟨rfl, by go_grown⟩

set_option maxRecDepth 100000 in
set_option maxHeartbeats 1000000 in
theorem headWrite_ (g : Nat) (s : DS) (t n k : Nat) (w : World) (h : Dk w g s) (hN : 2 ≤ s.n) (ht : t ≤ 9223372036854775807) (hn : n ≤ 9223372036854775807) (hk : k ≤ 9223372036854775807) :
    Calls Try.prog 36 #[hdV t n k, .pointer (some ⟨g + 2, 0, none⟩)] w fun e w' => e = .returned (.int .i64 ((wrsF [(t % 2, secOf (headB t n k))] s).1 : Int)) ∧ Dk w' g (wrsF [(t % 2, secOf (headB t n k))] s).2 ∧ Tn g (g + 3) w w' := by
  have ht' : (t : Int) ≤ 9223372036854775807 := by omega
  have hn' : (n : Int) ≤ 9223372036854775807 := by omega
  have hk' : (k : Int) ≤ 9223372036854775807 := by omega
  have hgl := h.lt
  go_enter Try.func36, Try.ntmps36
  go_wp2_with fail
  have hwr : Wr (((w.alloc (.cells #[.int .i64 (t : Int), .int .i64 (n : Int), .int .i64 (k : Int)] 76)).alloc (.cells #[.pointer none, .int .i64 0] 95)).alloc (.cells #[.int .u64 8746399990351620727, .int .u64 (t : Int), .int .u64 (n : Int), .int .u64 (k : Int)] 97)) (w.heap.size + 1) [] :=
    (Wr.new (w.alloc (.cells #[.int .i64 (t : Int), .int .i64 (n : Int), .int .i64 (k : Int)] 76)) (by simp)).below ((Below.refl _ _).alloc (Nat.le_refl _) _)
  have hns := Ns.new ((w.alloc (.cells #[.int .i64 (t : Int), .int .i64 (n : Int), .int .i64 (k : Int)] 76)).alloc (.cells #[.pointer none, .int .i64 0] 95)) [mark, t, n, k] (fun z hz => by simp [mark] at hz; omega) 97 (g := w.heap.size + 1 + 1) (by simp) (C := #[.int .u64 8746399990351620727, .int .u64 (t : Int), .int .u64 (n : Int), .int .u64 (k : Int)]) (by simp [nvs, mark]) (n := 4) rfl
  have hB0 : Below w.heap.size w (((w.alloc (.cells #[.int .i64 (t : Int), .int .i64 (n : Int), .int .i64 (k : Int)] 76)).alloc (.cells #[.pointer none, .int .i64 0] 95)).alloc (.cells #[.int .u64 8746399990351620727, .int .u64 (t : Int), .int .u64 (n : Int), .int .u64 (k : Int)] 97)) := by go_grown
  have c0 : Blk (((w.alloc (.cells #[.int .i64 (t : Int), .int .i64 (n : Int), .int .i64 (k : Int)] 76)).alloc (.cells #[.pointer none, .int .i64 0] 95)).alloc (.cells #[.int .u64 8746399990351620727, .int .u64 (t : Int), .int .u64 (n : Int), .int .u64 (k : Int)] 97)) w.heap.size 76 #[.int .i64 (t : Int), .int .i64 (n : Int), .int .i64 (k : Int)] :=
    ((Blk.new w _ _ rfl).alloc _).alloc _
  generalize (((w.alloc (.cells #[.int .i64 (t : Int), .int .i64 (n : Int), .int .i64 (k : Int)] 76)).alloc (.cells #[.pointer none, .int .i64 0] 95)).alloc (.cells #[.int .u64 8746399990351620727, .int .u64 (t : Int), .int .u64 (n : Int), .int .u64 (k : Int)] 97)) = w1 at *
  refine (put_ _ [] _ 4 4 [mark, t, n, k] _ hwr hns (Nat.le_refl _) (by omega) (by simp)).mono ?_
  rw [List.nil_append]
  rintro e w2 ⟨rfl, hwr2, hg2⟩
  have c2 := c0.grown hg2 (by intro e; injection e with e; omega)
  have hB2 : Below w.heap.size w w2 := hB0.grown hg2 hB0.size (fun k hk => by injection hk with hk; omega)
  have h2 : Dk w2 g s := h.below hB2
  have hz2 := hB2.size
  have cc := c2.cell (j := 0) (u := .int .i64 (t : Int)) rfl
  have hl32 : (numsBytes [mark, t, n, k]).length = 32 := headB_length t n k
  have Hb := Lib.hid (show numsBytes [mark, t, n, k] = headB t n k from rfl)
  generalize numsBytes [mark, t, n, k] = hb at *
  clear hns hwr c0 hg2 hB0
  go_wp2_with fail
  go_region_held3 (fun w' => w'.cell? ⟨w.heap.size, 0, none⟩ = some (.int .i64 (t : Int)))
    (first | go_keep | exact cc | exact (hb3.cell (by show w.heap.size < _; exact c2.lt)).trans cc | exact ht4.cell ((hb3.cell (by show w.heap.size < _; exact c2.lt)).trans cc) (.inr (by show g + 3 ≤ w.heap.size; omega)))
    (first
      | (go_at_call 46; refine (bytes_ _ hb _ (hwr2.below ((Below.refl _ _).drew)) (by omega)).mono ?_; rintro e w3 ⟨rfl, hk3, hb3⟩)
      | (go_at_call 45; refine (wwrite_ g s (t % 2) _ _ _ hb _ (h2.drew.below hb3) (by have := bs_blk hk3; rw [hl32] at this; exact this) (fun e => by cases e) (by omega)).mono ?_; rintro e w4 ⟨rfl, h4, ht4⟩))
  have hc : ((t % 2 : Nat) : Int) = (t : Int) % 2 := by omega
  have hW : wrsF [(t % 2, secOf (headB t n k))] s = if (s.write ((t : Int) % 2) (secOf hb)).1 = 0 then (s.write ((t : Int) % 2) (secOf hb)).2.flush else s.write ((t : Int) % 2) (secOf hb) := by
    rw [← Hb.out]
    unfold wrsF wrs wrs
    rw [hc]
    by_cases e : (s.write ((t : Int) % 2) (secOf hb)).1 = 0
    · simp [e]
    · simp [e]
  rw [hc] at h4
  obtain ⟨e, s1, he⟩ : ∃ e s1, s.write ((t : Int) % 2) (secOf hb) = (e, s1) := ⟨_, _, rfl⟩
  rw [he] at h4 hW ⊢
  have hT : Tn g (g + 3) w w4 := ((Tn.ofBelow hB2 (Nat.le_refl _)).trans (Tn.ofBelow hb3 (Nat.le_refl _)).drew).trans ht4
  by_cases h0 : e = 0
  · subst h0
    have HW := Lib.hid (show wrsF [(t % 2, secOf (headB t n k))] s = s1.flush by rw [hW, if_pos rfl])
    clear hW he
    go_wp2_with fail
    refine (flush_ g s1 _ h4).mono ?_
    rintro e w5 ⟨rfl, h5, ht5⟩
    go_wp2
    go_ret
    rw [HW.out]
    exact ⟨rfl, h5, hT.trans ht5⟩
  · have HW := Lib.hid (show wrsF [(t % 2, secOf (headB t n k))] s = (e, s1) by rw [hW, if_neg h0])
    clear hW he
    have h0' : ¬ (e : Int) = 0 := by omega
    go_wp2
    go_ret
    rw [HW.out]
    exact ⟨rfl, h4, hT⟩

/-! ### the newest head -/
def lastN (D : Nat → List UInt8) : Nat → Nat × Nat × Nat
  | 0 => (0, 0, 0)
  | j + 1 => newer (lastN D j) (hdOf (D j))
def lastE (D : Nat → List UInt8) : Int := if (lastTwo D).1 = 0 then 5 else 0
theorem lastTwo_zero {D : Nat → List UInt8} (h : (lastTwo D).1 = 0) : lastTwo D = (0, 0, 0) := by
  have key : ∀ a b : Nat × Nat × Nat, (a.1 = 0 → a = (0, 0, 0)) → (newer a b).1 = 0 → newer a b = (0, 0, 0) := by
    intro a b ha h
    unfold newer at *
    split at h
    · omega
    · rename_i h1; rw [if_neg h1]; exact ha h
  exact key _ _ (key _ _ fun _ => rfl) h
theorem Blk.set3 {w : World} {b : Nat} {t : TypeId} {x y z : Value} (h : Blk w b t #[x, y, z]) (u0 u1 u2 : Value) : Blk (((w.setCell ⟨b, 0, none⟩ u0).setCell ⟨b, 1, none⟩ u1).setCell ⟨b, 2, none⟩ u2) b t #[u0, u1, u2] := by
  simpa using ((h.setCell 0 u0).setCell 1 u1).setCell 2 u2
theorem grown3 (w : World) (b : Nat) (u0 u1 u2 : Value) : w.grownBy (((w.setCell ⟨b, 0, none⟩ u0).setCell ⟨b, 1, none⟩ u1).setCell ⟨b, 2, none⟩ u2) (some b) :=
  ((grown_setCell w ⟨b, 0, none⟩ u0).trans (grown_setCell _ ⟨b, 1, none⟩ u1)).trans (grown_setCell _ ⟨b, 2, none⟩ u2)
theorem Below.set3 {B : Nat} {a w : World} (h : Below B a w) {b : Nat} (hb : B ≤ b) (hB : B ≤ a.heap.size) (u0 u1 u2 : Value) : Below B a (((w.setCell ⟨b, 0, none⟩ u0).setCell ⟨b, 1, none⟩ u1).setCell ⟨b, 2, none⟩ u2) :=
  h.grown (grown3 w b u0 u1 u2) (Nat.le_trans hB h.size) (fun j e => by injection e with e; omega)
abbrev hdC (t : Nat × Nat × Nat) : Array Value := #[.int .i64 (t.1 : Int), .int .i64 (t.2.1 : Int), .int .i64 (t.2.2 : Int)]
set_option maxRecDepth 100000 in
set_option maxHeartbeats 1000000 in
theorem newest_off (g : Nat) (s : DS) (w : World) (h : Dk w g s) (hN : 10 ≤ s.n) (ho : s.on = false) :
    Calls Try.prog 40 #[.pointer (some ⟨g + 2, 0, none⟩)] w fun e w' => e = .returned (.tuple #[hdV 0 0 0, .int .i64 8]) ∧ Below w.heap.size w w' := by
  have hr : rdE s 0 = 8 := by simp [rdE, ho]
  have hgl := h.lt
  have hB0 : Below w.heap.size w ((w.alloc (.cells #[.int .i64 0, .int .i64 0, .int .i64 0] 76)).alloc (.cells #[.int .i64 0, .int .i64 0, .int .i64 0] 76)) := by go_grown
  have hq : Blk ((w.alloc (.cells #[.int .i64 0, .int .i64 0, .int .i64 0] 76)).alloc (.cells #[.int .i64 0, .int .i64 0, .int .i64 0] 76)) w.heap.size 76 (hdC (0, 0, 0)) := (Blk.new w _ _ rfl).alloc _
  go_enter Try.func40, Try.ntmps40
  go_wp2_with fail
  generalize ((w.alloc (.cells #[.int .i64 0, .int .i64 0, .int .i64 0] 76)).alloc (.cells #[.int .i64 0, .int .i64 0, .int .i64 0] 76)) = w1 at *
  have h1 := h.below hB0
  go_loopw [9] (fun i wr => i = .int .i64 0 ∧ wr = w1) (fun _ _ => 0)
  case atStart => exact ⟨rfl, rfl⟩
  case round =>
    obtain ⟨rfl, rfl⟩ := hrel
    go_wp2_with fail
    refine (wread_ g s 0 _ h1 (by omega)).mono ?_
    rw [hr]
    rintro e w2 ⟨A, n, c, rfl, _, _, _, _, _, _, hb2⟩
    have hq2 := hq.keep hb2
    have hB2 := hB0.trans (hb2.mono hB0.size)
    have r0 := hq2.cell (j := 0) rfl
    have r1 := hq2.cell (j := 1) rfl
    have r2 := hq2.cell (j := 2) rfl
    have q0 := hq2.free 0
    have q1 := hq2.free 1
    have q2 := hq2.free 2
    go_wp2
    refine bodyPost_ret (v := .tuple #[hdV 0 0 0, .int .i64 8]) (by simp [results, Try.results40, go_sem, r0, r1, r2, q0, q1, q2]) rfl ?_
    refine ⟨rfl, ?_⟩
    have hset := ((grown_setCell w2 ⟨w.heap.size, 0, none⟩ (.int .i64 0)).trans (grown_setCell _ ⟨w.heap.size, 1, none⟩ (.int .i64 0))).trans (grown_setCell _ ⟨w.heap.size, 2, none⟩ (.int .i64 0))
    exact hB2.grown hset hB2.size (fun j e => by simp at e; omega)

set_option maxRecDepth 100000 in
set_option maxHeartbeats 2000000 in
theorem newest_on (g : Nat) (s : DS) (w : World) (h : Dk w g s) (hN : 10 ≤ s.n) (ho : s.on = true) :
    Calls Try.prog 40 #[.pointer (some ⟨g + 2, 0, none⟩)] w fun e w' => e = .returned (.tuple #[.agg (hdC (lastTwo s.look)), .int .i64 (lastE s.look)]) ∧ Below w.heap.size w w' := by
  have hE : ∀ j, rdE s j = if okSum (s.look j) = true then 0 else 5 := fun j => by simp [rdE, ho]
  have hL : ∀ j, rdL s j = openL (s.look j) := fun j => by simp [rdL, ho]
  have hgl := h.lt
  have hB0 : Below w.heap.size w ((w.alloc (.cells #[.int .i64 0, .int .i64 0, .int .i64 0] 76)).alloc (.cells #[.int .i64 0, .int .i64 0, .int .i64 0] 76)) := by go_grown
  have hq : Blk ((w.alloc (.cells #[.int .i64 0, .int .i64 0, .int .i64 0] 76)).alloc (.cells #[.int .i64 0, .int .i64 0, .int .i64 0] 76)) w.heap.size 76 (hdC (0, 0, 0)) := (Blk.new w _ _ rfl).alloc _
  have hp : Blk ((w.alloc (.cells #[.int .i64 0, .int .i64 0, .int .i64 0] 76)).alloc (.cells #[.int .i64 0, .int .i64 0, .int .i64 0] 76)) (w.heap.size + 1) 76 (hdC (0, 0, 0)) := Blk.new _ _ _ (by simp)
  go_enter Try.func40, Try.ntmps40
  go_wp2_with fail
  generalize ((w.alloc (.cells #[.int .i64 0, .int .i64 0, .int .i64 0] 76)).alloc (.cells #[.int .i64 0, .int .i64 0, .int .i64 0] 76)) = w1 at *
  go_loopw [9] (fun i wr => ∃ j : Nat, j ≤ 2 ∧ i = .int .i64 j ∧ Blk wr w.heap.size 76 (hdC (0, 0, 0)) ∧ Blk wr (w.heap.size + 1) 76 (hdC (lastN s.look j)) ∧ Below w.heap.size w wr) (fun i _ => 2 - (intOf i).toNat)
  case atStart => exact ⟨0, by omega, rfl, hq, hp, hB0⟩
  case round =>
    clear hq hp hB0
    obtain ⟨j, hj, rfl, hq, hp, hB⟩ := hrel
    have hz := hB.size
    have hpl := hp.lt
    by_cases hlt : j < 2
    · have hN' : newer (lastN s.look j) (parseL (rdL s j)) = lastN s.look (j + 1) := by rw [hL]; rfl
      have hE' : rdE s j ≠ 8 := by rw [hE]; split <;> decide
      have HN := Lib.hid hN'
      clear hN' hE hL
      generalize lastN s.look j = L at *
      obtain ⟨L1, L2, L3⟩ := L
      go_wp2_with fail
      refine (wread_ g s j _ (h.below hB) (by omega)).mono ?_
      rintro e w2 ⟨A, n, c, rfl, hbs, hA, hn, hc, hm, _, hb2⟩
      generalize rdE s j = E at *
      generalize rdL s j = xs at *
      go_wp2_with fail
      refine (parse_ A n c xs _ hbs hA hc (by unfold maxLen at hm; omega) (by omega)).mono ?_
      rintro e w3 ⟨rfl, hb3⟩
      have hq3 := (hq.keep hb2).keep hb3
      have hp3 := (hp.keep hb2).keep hb3
      have hB3 := (hB.trans (hb2.mono hz)).trans (hb3.mono (Nat.le_trans hz hb2.size))
      have hz3 := hB3.size
      generalize parseL xs = p at *
      obtain ⟨p1, p2, p3⟩ := p
      have r0 := hp3.cell (j := 0) (u := .int .i64 (L1 : Int)) rfl
      have r1 := hp3.cell (j := 1) (u := .int .i64 (L2 : Int)) rfl
      have r2 := hp3.cell (j := 2) (u := .int .i64 (L3 : Int)) rfl
      have hl3 := hp3.lt
      have q0 := hp3.free 0
      have q1 := hp3.free 1
      have q2 := hp3.free 2
      clear hbs hq hp hb2 hb3 hB
      by_cases hc : L1 < p1
      · have HN' := Lib.hid (show lastN s.look (j + 1) = (p1, p2, p3) by rw [← HN.out]; simp [newer, hc])
        have hc' : (L1 : Int) < (p1 : Int) := by omega
        go_wp2
        go_roundw
        case rel =>
          refine ⟨j + 1, by omega, by go_num, ?_, ?_, ?_⟩
          · exact (hq3.grown (grown3 w3 (w.heap.size + 1) _ _ _) (by intro e; injection e with e; omega)).alloc _
          · rw [HN'.out]; exact (hp3.set3 _ _ _).alloc _
          · exact (Below.set3 hB3 (Nat.le_succ _) (Nat.le_refl _) _ _ _).alloc (by simp only [World.size_setCell]; exact hz3) _
        case measure => simp [intOf]; omega
      · have HN' := Lib.hid (show lastN s.look (j + 1) = (L1, L2, L3) by rw [← HN.out]; simp [newer, hc])
        have hc' : ¬ (L1 : Int) < (p1 : Int) := by omega
        go_wp2
        go_roundw
        case rel =>
          refine ⟨j + 1, by omega, by go_num, ?_, ?_, ?_⟩
          · exact hq3.alloc _
          · rw [HN'.out]; exact hp3.alloc _
          · exact hB3.alloc hB3.size _
        case measure => simp [intOf]; omega
    · obtain rfl : j = 2 := by omega
      have HT := Lib.hid (show lastTwo s.look = lastN s.look 2 from rfl)
      have h0 := lastTwo_zero (D := s.look)
      rw [← HT.out] at hp
      clear HT hE hL
      obtain ⟨L, hL⟩ : ∃ L, lastTwo s.look = L := ⟨_, rfl⟩
      rw [hL] at hp h0
      have HL := Lib.hid hL
      have he : lastE s.look = if L.1 = 0 then 5 else 0 := by unfold lastE; rw [hL]
      clear hL
      obtain ⟨L1, L2, L3⟩ := L
      have r0 := hp.cell (j := 0) (u := .int .i64 (L1 : Int)) rfl
      have r1 := hp.cell (j := 1) (u := .int .i64 (L2 : Int)) rfl
      have r2 := hp.cell (j := 2) (u := .int .i64 (L3 : Int)) rfl
      have d0 := hq.cell (j := 0) rfl
      have d1 := hq.cell (j := 1) rfl
      have d2 := hq.cell (j := 2) rfl
      have q0 := hq.free 0
      have q1 := hq.free 1
      have q2 := hq.free 2
      by_cases hc : L1 = 0
      · have h0 := h0 hc
        simp only [Prod.mk.injEq] at h0
        obtain ⟨rfl, rfl, rfl⟩ := h0
        have HE := Lib.hid (show lastE s.look = 5 from he)
        clear he
        go_wp2
        refine bodyPost_ret (v := .tuple #[hdV 0 0 0, .int .i64 5]) (by simp [results, Try.results40, go_sem, d0, d1, d2, q0, q1, q2]) rfl ?_
        rw [HL.out, HE.out]
        exact ⟨rfl, Below.set3 hB (Nat.le_refl _) (Nat.le_refl _) _ _ _⟩
      · have hc' : ¬ (L1 : Int) = 0 := by omega
        have HE := Lib.hid (show lastE s.look = 0 by rw [he, if_neg hc])
        clear h0 hc he
        go_wp2
        refine bodyPost_ret (v := .tuple #[.agg (hdC (L1, L2, L3)), .int .i64 0]) (by simp [results, Try.results40, go_sem, d0, d1, d2, q0, q1, q2]) rfl ?_
        rw [HL.out, HE.out]
        exact ⟨rfl, Below.set3 hB (Nat.le_refl _) (Nat.le_refl _) _ _ _⟩
end Go.Proofs.Ytlpbdnncbinbmaa

/- Package wal: Open, Format, Read. -/
import Derived.Test.YtlpbdnncbinbmaaWalF
namespace Go.Proofs.Ytlpbdnncbinbmaa
open Go.RowKit Go.Maps

set_option maxRecDepth 100000 in
theorem sectors_nil (w : World) : Calls Try.prog 39 #[.pointer none] w fun e w' => e = .returned (.int .i64 0) ∧ w = w' := by
  go_enter Try.func39, Try.ntmps39
  go_wp2_with fail
  refine (made_nil w).mono ?_
  rintro e w' ⟨rfl, rfl⟩
  go_wp2
  go_ret
  exact ⟨rfl, rfl⟩
set_option maxRecDepth 100000 in
theorem open_small (g : Nat) (s : DS) (w : World) (h : Dk w g s) (hN : s.n < 10) : Calls Try.prog 23 #[.pointer (some ⟨g + 2, 0, none⟩)] w fun e w' => e = .returned (.tuple #[.pointer none, .int .i64 1]) ∧ w = w' := by
  have hN' : (s.n : Int) < 10 := by omega
  go_enter Try.func23, Try.ntmps23
  go_wp2_with fail
  refine (sectors_ g s w h).mono ?_
  rintro e w' ⟨rfl, rfl⟩
  go_wp2
  go_ret2
  exact ⟨rfl, rfl⟩
set_option maxRecDepth 100000 in
theorem format_small (g : Nat) (s : DS) (w : World) (h : Dk w g s) (hN : s.n < 10) : Calls Try.prog 25 #[.pointer (some ⟨g + 2, 0, none⟩)] w fun e w' => e = .returned (.int .i64 1) ∧ w = w' := by
  have hN' : (s.n : Int) < 10 := by omega
  go_enter Try.func25, Try.ntmps25
  go_wp2_with fail
  refine (sectors_ g s w h).mono ?_
  rintro e w' ⟨rfl, rfl⟩
  go_wp2
  go_ret
  exact ⟨rfl, rfl⟩
set_option maxRecDepth 100000 in
theorem format_nil (w : World) : Calls Try.prog 25 #[.pointer none] w fun e w' => e = .returned (.int .i64 1) ∧ w = w' := by
  go_enter Try.func25, Try.ntmps25
  go_wp2_with fail
  refine (sectors_nil w).mono ?_
  rintro e w' ⟨rfl, rfl⟩
  go_wp2
  go_ret
  exact ⟨rfl, rfl⟩
/-- A disk without a log. -/
structure Bare (s : DS) : Prop where
  up : Up s
  head0 : (hdOf (s.plate 0)).1 = 0
  head1 : (hdOf (s.plate 1)).1 = 0
theorem Bare.last {s : DS} (h : Bare s) : (lastTwo s.plate).1 = 0 := by
  have h0 := h.head0
  have h1 := h.head1
  have key : ∀ a b : Nat × Nat × Nat, a.1 = 0 → b.1 = 0 → (newer a b).1 = 0 := fun a b ha hb => by unfold newer; split <;> omega
  exact key _ _ (key _ _ rfl h0) h1

/-! ### look, where there is no log -/
set_option maxRecDepth 100000 in
set_option maxHeartbeats 2000000 in
theorem open_form (g : Nat) (s : DS) (w : World) (h : Dk w g s) (hN : 10 ≤ s.n) (hb : Bare s) : Calls Try.prog 23 #[.pointer (some ⟨g + 2, 0, none⟩)] w fun e w' => e = .returned (.tuple #[.pointer none, .int .i64 5]) ∧ Below w.heap.size w w' := by
  have hN' : ¬ (s.n : Int) < 10 := by omega
  have hlook : ∀ w : World, ∀ b, Lk w g b s 0 → Calls Try.prog 33 #[.pointer (some ⟨b, 0, none⟩)] w fun e w' => e = .returned (.tuple #[hdV 0 0 0, .int .i64 5]) ∧ Below w.heap.size w w' := by
    intro w b h
    have hq : Blk (w.alloc (hdO (0, 0, 0))) w.heap.size 76 (hdC (0, 0, 0)) := Blk.new w _ _ rfl
    have h0 := h.alloc (hdO (0, 0, 0))
    have c0 := h.log.cell (j := 0) (u := .pointer (some ⟨g + 2, 0, none⟩)) rfl
    have hbl := h.blt
    go_enter Try.func33, Try.ntmps33
    go_wp2_with fail
    refine (settle_form g s _ h0.disk h.least hb.up hb.last).mono ?_
    rintro e w1 ⟨rfl, hb1⟩
    have hq1 := hq.keep hb1
    have hB1 : Below w.heap.size w w1 := ((Below.refl _ _).alloc (Nat.le_refl _) _).trans (hb1.mono (by simp))
    have hlq := hq1.lt
    have x0 := hq1.cell (j := 0) (u := .int .i64 0) rfl
    have x1 := hq1.cell (j := 1) (u := .int .i64 0) rfl
    have x2 := hq1.cell (j := 2) (u := .int .i64 0) rfl
    have y0 := hq1.free 0
    have y1 := hq1.free 1
    have y2 := hq1.free 2
    go_wp2
    refine bodyPost_ret (results_hd2 rfl rfl ((hq1.set3 (.int .i64 0) (.int .i64 0) (.int .i64 0)).alloc _)) rfl ?_
    exact ⟨rfl, by go_grown⟩
  have hLk : Lk (w.alloc (.cells #[.pointer (some ⟨g + 2, 0, none⟩), .int .i64 0] 63)) g w.heap.size s 0 := ⟨h.alloc _, Blk.new w _ _ rfl, by have := h.lt; omega, hN⟩
  go_enter Try.func23, Try.ntmps23
  go_wp2_with fail
  refine (sectors_ g s w h).mono ?_
  rintro e w' ⟨rfl, rfl⟩
  go_wp2_with fail
  refine (hlook _ _ hLk).mono ?_
  rintro e w1 ⟨rfl, hb1⟩
  have hB1 : Below w.heap.size w w1 := ((Below.refl _ _).alloc (Nat.le_refl _) _).trans (hb1.mono (by simp))
  go_wp2
  go_ret2
  exact ⟨rfl, hB1.alloc hB1.size _⟩

/-- What Open comes to. -/
def Opened (g : Nat) (s : DS) (t n : Nat) (P : Nat → List UInt8) (w : World) (e : Ending) (w' : World) (s' : DS) : Prop :=
  (∃ b t', t ≤ t' ∧ t' ≤ t + 1 ∧ e = .returned (.tuple #[.pointer (some ⟨b, 0, none⟩), .int .i64 0]) ∧ w.heap.size ≤ b ∧ St s' t' n P ∧ Lk w' g b s' n) ∨
  (e = .returned (.tuple #[.pointer none, .int .i64 8]) ∧ 0 ≤ s.fuse ∧ s'.on = false ∧ ∀ keep, ∃ t', t ≤ t' ∧ t' ≤ t + 1 ∧ Jn (s'.woken keep) s.n t' n P)
set_option maxRecDepth 100000 in
set_option maxHeartbeats 2000000 in
theorem open_log (g : Nat) (s : DS) (t n : Nat) (P : Nat → List UInt8) (w : World) (h : Dk w g s) (hN : 10 ≤ s.n) (hu : Up s) (hj : Jn s.plate s.n t n P) (ht : t ≤ topN) (hn : n ≤ topN) :
    Calls Try.prog 23 #[.pointer (some ⟨g + 2, 0, none⟩)] w fun e w' => ∃ s', Dk w' g s' ∧ Fz s s' ∧ Tn g (g + 3) w w' ∧ Opened g s t n P w e w' s' := by
  have hN' : ¬ (s.n : Int) < 10 := by omega
  have hgl := h.lt
  have hLk : Lk (w.alloc (.cells #[.pointer (some ⟨g + 2, 0, none⟩), .int .i64 0] 63)) g w.heap.size s 0 := ⟨h.alloc _, Blk.new w _ _ rfl, by omega, hN⟩
  go_enter Try.func23, Try.ntmps23
  go_wp2_with fail
  refine (sectors_ g s w h).mono ?_
  rintro e w' ⟨rfl, rfl⟩
  go_wp2_with fail
  refine (look_ g w.heap.size s 0 t n P _ hLk hu hj ht hn).mono ?_
  rintro e w1 ⟨s1, hfz, hTl, hS, hL⟩
  have hT : Tn g (g + 3) w w1 := Tl.fresh (Tn.alloc _ _) hTl (Nat.le_refl _)
  obtain ⟨t', ht1', ht2', rfl, hup, hh, hdt⟩ | ⟨rfl, hf, hoff, hQ⟩ := hS
  · rw [if_pos hup.on] at hL
    go_wp2
    go_ret2
    exact ⟨s1, (hL.alloc _).disk, hfz, hT.trans (Tn.alloc _ _), .inl ⟨w.heap.size, t', ht1', ht2', rfl, Nat.le_refl _, ⟨hup, hh, by rw [hfz.n]; exact hdt⟩, hL.alloc _⟩⟩
  · go_wp2
    go_ret2
    exact ⟨s1, (hL.alloc _).disk, hfz, hT.trans (Tn.alloc _ _), .inr ⟨rfl, hf, hoff, hQ⟩⟩

/-! ### Format -/
def zeroP : Nat → List UInt8 := fun _ => row0
/-- What Format comes to. -/
def Formed (s : DS) (e : Ending) (s' : DS) : Prop :=
  (∃ t', t' ≤ 2 ∧ e = .returned (.int .i64 0) ∧ St s' t' 0 zeroP) ∨
  (e = .returned (.int .i64 8) ∧ 0 ≤ s.fuse ∧ s'.on = false ∧ ∀ keep, ((hdOf (s'.woken keep 0)).1 = 0 ∧ (hdOf (s'.woken keep 1)).1 = 0) ∨ ∃ t', t' ≤ 2 ∧ Jn (s'.woken keep) s.n t' 0 zeroP)
/-- The first head is written. -/
theorem formW {s : DS} (hb : Bare s) (hN : 10 ≤ s.n) :
    Ran s (wrsF [(1 % 2, secOf (headB 1 0 7))] s) (fun D => Hd D 1 0 7 ∧ Dat D s.n zeroP 7) (fun D => ((hdOf (D 0)).1 = 0 ∧ (hdOf (D 1)).1 = 0) ∨ Jn D s.n 1 0 zeroP) := by
  have hl : (secOf (headB 1 0 7)).length = 64 := secOf_length (by rw [headB_length]; omega)
  have key : ∀ D : Nat → List UInt8, D 0 = s.plate 0 → D 1 = secOf (headB 1 0 7) → Hd D 1 0 7 ∧ Dat D s.n zeroP 7 := fun D h0 h1 =>
    ⟨⟨h1, by rw [h0, hb.head0]; decide, by omega, by omega⟩, fun _ _ => rfl, fun e => (by cases e), fun _ _ _ => rfl, fun _ e => by omega⟩
  refine wrsF_spec hb.up (fun p hp => ?_) ?_ (fun D hD => ?_)
  · rw [List.mem_singleton] at hp; subst hp; exact ⟨by simp only; omega, by simp only; omega⟩
  · refine key _ ?_ ?_
    · simp [updL]
    · simp only [updL]; rw [if_pos (by decide)]; exact pad_sec hl
  · have h0 : D 0 = s.plate 0 := by
      rcases hD 0 with h | ⟨p, hp, h1, _⟩
      · exact h
      · rw [List.mem_singleton] at hp; subst hp; cases h1
    rcases hD 1 with h | ⟨p, hp, _, h2⟩
    · exact .inl ⟨by rw [h0]; exact hb.head0, by rw [h]; exact hb.head1⟩
    · rw [List.mem_singleton] at hp; subst hp
      exact .inr ⟨7, key D h0 (by rw [h2]; exact pad_sec hl)⟩
set_option maxRecDepth 100000 in
set_option maxHeartbeats 2000000 in
theorem format_ (g : Nat) (s : DS) (w : World) (h : Dk w g s) (hN : 10 ≤ s.n) (hb : Bare s) :
    Calls Try.prog 25 #[.pointer (some ⟨g + 2, 0, none⟩)] w fun e w' => ∃ s', Dk w' g s' ∧ Fz s s' ∧ Tn g (g + 3) w w' ∧ Formed s e s' := by
  have hN' : ¬ (s.n : Int) < 10 := by omega
  have hgl := h.lt
  have hlk : s.look = s.plate := funext hb.up.look
  have hnew := newest_on g s w h hN hb.up.on
  rw [hlk, lastTwo_zero hb.last, show lastE s.plate = 5 by unfold lastE; rw [if_pos hb.last]] at hnew
  have hran := formW hb hN
  go_enter Try.func25, Try.ntmps25
  go_wp2_with fail
  refine (sectors_ g s w h).mono ?_
  rintro e w' ⟨rfl, rfl⟩
  go_wp2_with fail
  refine hnew.mono ?_
  rintro e w1 ⟨rfl, hb1⟩
  have hd1 := h.below hb1
  have hz1 := hb1.size
  go_wp2_with fail
  refine (next_ 0 0 0 0 7 _ (by omega)).mono ?_
  rintro e w2 ⟨rfl, hb2⟩
  have hd2 := (hd1.alloc (hdO (0, 0, 0))).below hb2
  have hT2 : Tn g (g + 3) w w2 := ((Tn.ofBelow hb1 (Nat.le_refl _)).trans (Tn.alloc _ _)).trans (Tn.ofBelow hb2 (Nat.le_refl _))
  go_wp2_with fail
  refine (headWrite_ g s 1 0 7 _ hd2 (by omega) (by omega) (by omega) (by omega)).mono ?_
  rintro e w3 ⟨rfl, hd3, ht3⟩
  obtain ⟨R1, s3, hR⟩ : ∃ R1 s3, wrsF [(1 % 2, secOf (headB 1 0 7))] s = (R1, s3) := ⟨_, _, rfl⟩
  rw [hR] at hran hd3 ⊢
  clear hR
  have hT3 := hT2.trans ht3
  obtain ⟨e0, hup, ⟨hh3, hd7⟩, hfz⟩ | ⟨e8, hf, hoff, hQ, hfz⟩ := hran
  · simp only at e0 hup hh3 hd7 hfz
    subst e0
    go_wp2_with fail
    refine (settle_ g s3 1 0 zeroP _ hd3 (by rw [hfz.n]; exact hN) hup ⟨7, hh3, by rw [hfz.n]; exact hd7⟩ (by decide) (by decide)).mono ?_
    rintro e w4 ⟨s4, hd4, ht4, hfz4, hS⟩
    obtain ⟨t', ht1', ht2', rfl, hup, hh, hdt⟩ | ⟨rfl, hf, hoff, hQ⟩ := hS
    · go_wp2
      go_ret
      exact ⟨s4, hd4.alloc _, hfz.trans hfz4, (hT3.trans ht4).trans (Tn.alloc _ _), .inl ⟨t', ht2', rfl, hup, hh, by rw [hfz4.n]; exact hdt⟩⟩
    · go_wp2
      go_ret
      refine ⟨s4, hd4.alloc _, hfz.trans hfz4, (hT3.trans ht4).trans (Tn.alloc _ _), .inr ⟨rfl, hfz.neg hf, hoff, fun keep => .inr ?_⟩⟩
      obtain ⟨t', _, h2, h3⟩ := hQ keep
      exact ⟨t', h2, by rw [← hfz.n]; exact h3⟩
  · simp only at e8 hoff hQ hfz
    subst e8
    go_wp2
    go_ret
    refine ⟨s3, hd3, hfz, hT3, .inr ⟨rfl, hf, hoff, fun keep => ?_⟩⟩
    rcases hQ keep with h | h
    · exact .inl h
    · exact .inr ⟨1, by omega, h⟩

/-! ### Read -/
set_option maxRecDepth 100000 in
set_option maxHeartbeats 2000000 in
theorem lread_bad (g b : Nat) (s : DS) (nl : Nat) (i : Int) (w : World) (h : Lk w g b s nl) (hi : inP (s.n - 9) i = false) :
    Calls Try.prog 28 #[.pointer (some ⟨b, 0, none⟩), .int .i64 i] w fun e w' => e = .returned (.tuple #[.slice none 0 0, .int .i64 1]) ∧ w = w' := by
  have Hi := Lib.hid hi
  clear hi
  go_enter Try.func28, Try.ntmps28
  go_wp2_with fail
  refine (lmade_ g b s nl w h).mono ?_
  rintro e w' ⟨rfl, rfl⟩
  go_wp2_with fail
  refine (lhas_ g b s nl w i h).mono ?_
  rw [Hi.out]
  rintro e w' ⟨rfl, rfl⟩
  go_wp2
  go_ret2
  exact ⟨rfl, rfl⟩
set_option maxRecDepth 100000 in
set_option maxHeartbeats 2000000 in
theorem lread_ (g b : Nat) (s : DS) (t n i : Nat) (P : Nat → List UInt8) (w : World) (h : Lk w g b s n) (hs : St s t n P) (ht : t ≤ topN) (hn : n ≤ topN) (hi : i < s.n - 9) :
    Calls Try.prog 28 #[.pointer (some ⟨b, 0, none⟩), .int .i64 (i : Int)] w fun e w' => ∃ q, e = .returned (.tuple #[.slice (some ⟨q, 0, none⟩) 48 64, .int .i64 0]) ∧ w.heap.size ≤ q ∧ Blk w' q 87 (bvs (pad (P i))).toArray ∧ Lk w' g b s n ∧ Tn b (b + 1) w w' := by
  have Hi := Lib.hid (show inP (s.n - 9) (i : Int) = true from decide_eq_true ⟨by omega, by omega⟩)
  have hmost := h.disk.most
  have hrd : s.read ((9 + i : Nat) : Int) = (pad (P i), 0) := by
    have hh : s.has ((9 + i : Nat) : Int) := ⟨by omega, by omega⟩
    unfold DS.read
    rw [if_neg (fun e => e hh), if_pos hs.up.on, Int.toNat_natCast, hs.up.look, hs.dat.set rfl i hi]
  have hpl : (pad (P i)).length = 64 := pad_length (by rw [hs.dat.len i hi]; omega)
  have hcst : ((9 + i : Nat) : Int) = 9 + (i : Int) := by omega
  have hi' : (i : Int) ≤ 300 := by omega
  have hblt := h.lt
  go_enter Try.func28, Try.ntmps28
  go_wp2_with fail
  refine (lmade_ g b s n w h).mono ?_
  rintro e w' ⟨rfl, rfl⟩
  go_wp2_with fail
  refine (lhas_ g b s n w i h).mono ?_
  rw [Hi.out]
  rintro e w' ⟨rfl, rfl⟩
  go_wp2_with fail
  refine (look_set g b s n t n P w h hs ht hn).mono ?_
  rintro e w1 ⟨rfl, ht1, h1⟩
  have hz1 := ht1.size
  have h2 := h1.alloc (hdO (t, n, 0))
  have c0 := h1.log.cell (j := 0) (u := .pointer (some ⟨g + 2, 0, none⟩)) rfl
  have hbl := h1.blt
  go_wp2_with fail
  have hr := read_ g s ((9 + i : Nat) : Int) _ h2.disk
  rw [hrd, hcst] at hr
  refine hr.mono ?_
  clear hr
  rintro e w2 ⟨v, rfl, hG, _, hb2⟩
  rcases hG with ⟨h0, _⟩ | ⟨q, rfl, _, hq, hbk⟩
  · simp only at h0; rw [h0] at hpl; cases hpl
  go_wp2
  go_ret2
  exact ⟨q, rfl, by simp at hq; omega, hbk, h2.below hb2, (ht1.trans (Tn.alloc _ _)).trans (Tn.ofBelow hb2 (Nat.le_refl _))⟩
end Go.Proofs.Ytlpbdnncbinbmaa

/- Package wal: a Log on the heap; made, Number, Places, has, look. -/
import Derived.Test.YtlpbdnncbinbmaaWalE
namespace Go.Proofs.Ytlpbdnncbinbmaa
open Go.RowKit Go.Maps

theorem settle_ (g : Nat) (s : DS) (t n : Nat) (P : Nat → List UInt8) (w : World) (h : Dk w g s) (hN : 10 ≤ s.n) (hu : Up s) (hj : Jn s.plate s.n t n P) (ht : t ≤ topN) (hn : n ≤ topN) :
    Calls Try.prog 41 #[.pointer (some ⟨g + 2, 0, none⟩)] w fun e w' => ∃ s', Dk w' g s' ∧ Tn g (g + 3) w w' ∧ Fz s s' ∧ Settled s t n P e s' := by
  obtain ⟨k, hh, hd⟩ := hj
  by_cases hk : k = 0
  · subst hk
    refine (settle_set g s t n w h hN hu hh ht hn).mono ?_
    rintro e w' ⟨rfl, hb⟩
    exact ⟨s, h.below hb, Tn.ofBelow hb (Nat.le_refl _), Fz.refl s, .inl ⟨t, Nat.le_refl _, by omega, rfl, hu, hh, hd⟩⟩
  · exact settle_todo g s t n k P w h hN hu hh hd (by omega) ht hn

/-- All that was there is as it was, but for the disk's blocks and the log's own. -/
structure Tl (g b : Nat) (w w' : World) : Prop where
  os : w'.os = w.os
  tape : w'.tape = w.tape
  output : w'.output = w.output
  size : w.heap.size ≤ w'.heap.size
  block : ∀ k, k < w.heap.size → k < g ∨ g + 3 ≤ k → k ≠ b → w'.heap[k]? = w.heap[k]?
theorem Tl.refl (g b : Nat) (w : World) : Tl g b w w := ⟨rfl, rfl, rfl, Nat.le_refl _, fun _ _ _ _ => rfl⟩
theorem Tl.trans {g b : Nat} {x y z : World} (h : Tl g b x y) (k : Tl g b y z) : Tl g b x z :=
  ⟨k.os.trans h.os, k.tape.trans h.tape, k.output.trans h.output, Nat.le_trans h.size k.size, fun i hi ho hn => (k.block i (Nat.lt_of_lt_of_le hi h.size) ho hn).trans (h.block i hi ho hn)⟩
theorem Tl.disk {g b : Nat} {x y : World} (h : Tn g (g + 3) x y) : Tl g b x y := ⟨h.os, h.tape, h.output, h.size, fun i hi ho _ => h.block i hi ho⟩
theorem Tl.log {g b : Nat} {x y : World} (h : Tn b (b + 1) x y) : Tl g b x y := ⟨h.os, h.tape, h.output, h.size, fun i hi _ hn => h.block i hi (by omega)⟩
theorem Tl.ofBelow {g b : Nat} {x y : World} (h : Below x.heap.size x y) : Tl g b x y := .disk (Tn.ofBelow h (Nat.le_refl _))
theorem Tl.alloc {g b : Nat} (w : World) (o : Obj) : Tl g b w (w.alloc o) := .disk (Tn.alloc _ _)
/-- What is turned behind x was new at x. -/
theorem Tl.new {g b lo hi : Nat} {x y z : World} (h : Tl g b x y) (k : Tn lo hi y z) (hl : x.heap.size ≤ lo) : Tl g b x z :=
  ⟨k.os.trans h.os, k.tape.trans h.tape, k.output.trans h.output, Nat.le_trans h.size k.size, fun i hi ho hn => (k.block i (Nat.lt_of_lt_of_le hi h.size) (by omega)).trans (h.block i hi ho hn)⟩
/-- The log itself was new at x. -/
theorem Tl.fresh {g b : Nat} {x y z : World} (h : Tn g (g + 3) x y) (k : Tl g b y z) (hl : x.heap.size ≤ b) : Tn g (g + 3) x z :=
  ⟨k.os.trans h.os, k.tape.trans h.tape, k.output.trans h.output, Nat.le_trans h.size k.size, fun i hi ho => (k.block i (Nat.lt_of_lt_of_le hi h.size) ho (by omega)).trans (h.block i hi ho)⟩
theorem Tl.tn {g b lo hi : Nat} {x y : World} (h : Tl g b x y) (h1 : lo ≤ g) (h2 : g + 3 ≤ b) (h3 : b < hi) : Tn lo hi x y := ⟨h.os, h.tape, h.output, h.size, fun i hi ho => h.block i hi (by omega) (by omega)⟩
theorem Tl.below {g b B : Nat} {x y : World} (h : Tl g b x y) (h1 : B ≤ g) (h2 : B ≤ b) (h3 : B ≤ x.heap.size) : Below B x y := ⟨h.os, h.tape, h.output, h.size, fun i hi => h.block i (by omega) (by omega) (by omega)⟩
theorem Tl.drewR {g b : Nat} {x y : World} (h : Tl g b x y) : Tl g b x y.drew := ⟨h.os, h.tape, h.output, h.size, h.block⟩
theorem Tl.drewL {g b : Nat} {x y : World} (h : Tl g b x.drew y) : Tl g b x y := ⟨h.os, h.tape, h.output, h.size, h.block⟩
theorem Tl.cell {g b : Nat} {w w' : World} (h : Tl g b w w') {p : Addr} {u : Value} (hc : w.cell? p = some u) (ho : p.block < g ∨ g + 3 ≤ p.block) (hn : p.block ≠ b) : w'.cell? p = some u := by
  rw [World.cell?_of_block (h.block _ (cell_lt hc) ho hn)]; exact hc
theorem Tl.blk {g b : Nat} {w w' : World} (h : Tl g b w w') {q : Nat} {t : TypeId} {cs : Array Value} (hc : Blk w q t cs) (ho : q < g ∨ g + 3 ≤ q) (hn : q ≠ b) : Blk w' q t cs := (h.block _ hc.lt ho hn).trans hc
theorem Tl.rd {g b : Nat} {w w' : World} (h : Tl g b w w') {A : Option Addr} {sz n : Nat} {xs : List Value} (hr : Rd w A sz n xs) (ho : ∀ a, A = some a → 0 < n → (a.block < g ∨ g + 3 ≤ a.block) ∧ a.block ≠ b) : Rd w' A sz n xs :=
  ⟨hr.1, fun j u hu => by
    obtain ⟨q, o, e, hc⟩ := hr.2 j u hu
    have hn : 0 < n := by
      have h1 := (List.getElem?_eq_some_iff.1 hu).1
      have h2 := hr.1
      rcases Nat.eq_zero_or_pos n with h0 | h0
      · subst h0; rw [Nat.zero_mul] at h2; omega
      · exact h0
    have hk := ho _ e hn
    exact ⟨q, o, e, h.cell hc hk.1 hk.2⟩⟩
theorem Tl.bs {g b : Nat} {w w' : World} (h : Tl g b w w') {A : Option Addr} {n : Nat} {xs : List UInt8} (hr : Bs w A n xs) (ho : ∀ a, A = some a → 0 < n → (a.block < g ∨ g + 3 ≤ a.block) ∧ a.block ≠ b) : Bs w' A n xs := h.rd hr ho

/-- A log that Open gave: itself in block b, its disk at g. -/
structure Lk (w : World) (g b : Nat) (s : DS) (nl : Nat) : Prop where
  disk : Dk w g s
  log : Blk w b 63 #[.pointer (some ⟨g + 2, 0, none⟩), .int .i64 (nl : Int)]
  lt : g + 3 ≤ b
  least : 10 ≤ s.n
theorem Lk.below {w w' : World} {g b nl : Nat} {s : DS} (h : Lk w g b s nl) (hb : Below w.heap.size w w') : Lk w' g b s nl := ⟨h.disk.below hb, h.log.keep hb, h.lt, h.least⟩
theorem Lk.alloc {w : World} {g b nl : Nat} {s : DS} (h : Lk w g b s nl) (o : Obj) : Lk (w.alloc o) g b s nl := h.below ((Below.refl _ _).alloc (Nat.le_refl _) _)
theorem Lk.tn {w w' : World} {g b nl lo hi : Nat} {s : DS} (h : Lk w g b s nl) (ht : Tn lo hi w w') (ho : hi ≤ g ∨ b < lo) : Lk w' g b s nl := ⟨h.disk.tn ht (by have := h.lt; omega), ht.blk h.log (by have := h.lt; omega), h.lt, h.least⟩
theorem Lk.blt {w : World} {g b nl : Nat} {s : DS} (h : Lk w g b s nl) : b < w.heap.size := h.log.lt
/-- The power is on, nothing is in the cache, nothing is left to be done. -/
structure St (s : DS) (t n : Nat) (P : Nat → List UInt8) : Prop where
  up : Up s
  hd : Hd s.plate t n 0
  dat : Dat s.plate s.n P 0
theorem St.jn {s : DS} {t n : Nat} {P : Nat → List UInt8} (h : St s t n P) : Jn s.plate s.n t n P := ⟨0, h.hd, h.dat⟩

section
variable (g b : Nat) (s : DS) (nl : Nat) (w : World)
set_option maxRecDepth 100000 in
theorem lmade_ (h : Lk w g b s nl) : Calls Try.prog 31 #[.pointer (some ⟨b, 0, none⟩)] w fun e w' => e = .returned (.bool true) ∧ w = w' := by
  have c0 := h.log.cell (j := 0) (u := .pointer (some ⟨g + 2, 0, none⟩)) rfl
  go_enter Try.func31, Try.ntmps31
  go_wp2
  go_ret
  exact ⟨rfl, rfl⟩
set_option maxRecDepth 100000 in
theorem lmade_nil : Calls Try.prog 31 #[.pointer none] w fun e w' => e = .returned (.bool false) ∧ w = w' := by
  go_enter Try.func31, Try.ntmps31
  go_wp2
  go_ret
  exact ⟨rfl, rfl⟩
set_option maxRecDepth 100000 in
theorem lmade_zero (c0 : w.cell? ⟨b, 0, none⟩ = some (.pointer none)) : Calls Try.prog 31 #[.pointer (some ⟨b, 0, none⟩)] w fun e w' => e = .returned (.bool false) ∧ w = w' := by
  go_enter Try.func31, Try.ntmps31
  go_wp2
  go_ret
  exact ⟨rfl, rfl⟩
set_option maxRecDepth 100000 in
theorem number_log (h : Lk w g b s nl) : Calls Try.prog 22 #[.pointer (some ⟨b, 0, none⟩)] w fun e w' => e = .returned (.int .i64 (nl : Int)) ∧ w = w' := by
  have c1 := h.log.cell (j := 1) (u := .int .i64 (nl : Int)) rfl
  go_enter Try.func22, Try.ntmps22
  go_wp2_with fail
  refine (lmade_ g b s nl w h).mono ?_
  rintro e w' ⟨rfl, rfl⟩
  go_wp2
  go_ret
  exact ⟨rfl, rfl⟩
set_option maxRecDepth 100000 in
theorem places_log (h : Lk w g b s nl) : Calls Try.prog 29 #[.pointer (some ⟨b, 0, none⟩)] w fun e w' => e = .returned (.int .i64 ((s.n - 9 : Nat) : Int)) ∧ w = w' := by
  have c0 := h.log.cell (j := 0) (u := .pointer (some ⟨g + 2, 0, none⟩)) rfl
  have hl := h.least
  have hm := h.disk.most
  have hsub : (s.n : Int) - 9 = ((s.n - 9 : Nat) : Int) := by omega
  have Hsub := Lib.hid hsub
  clear hsub
  go_enter Try.func29, Try.ntmps29
  go_wp2_with fail
  refine (lmade_ g b s nl w h).mono ?_
  rintro e w' ⟨rfl, rfl⟩
  go_wp2_with fail
  refine (sectors_ g s w h.disk).mono ?_
  rintro e w' ⟨rfl, rfl⟩
  go_wp2
  go_ret
  rw [← Hsub.out]
  exact ⟨rfl, rfl⟩
/-- Is i a place's number? -/
def inP (m : Nat) (i : Int) : Bool := decide (0 ≤ i ∧ i < (m : Int))
set_option maxRecDepth 100000 in
theorem lhas_ (i : Int) (h : Lk w g b s nl) : Calls Try.prog 42 #[.pointer (some ⟨b, 0, none⟩), .int .i64 i] w fun e w' => e = .returned (.bool (inP (s.n - 9) i)) ∧ w = w' := by
  by_cases h0 : 0 ≤ i
  · have Hd := Lib.hid (show inP (s.n - 9) i = decide (i < ((s.n - 9 : Nat) : Int)) by simp [inP, h0])
    go_enter Try.func42, Try.ntmps42
    go_wp2_with fail
    refine (places_log g b s nl w h).mono ?_
    rintro e w' ⟨rfl, rfl⟩
    go_wp2
    go_ret
    rw [Hd.out]
    exact ⟨rfl, rfl⟩
  · have Hd := Lib.hid (show inP (s.n - 9) i = false from decide_eq_false fun e => h0 e.1)
    go_enter Try.func42, Try.ntmps42
    go_wp2
    go_ret
    rw [Hd.out]
    exact ⟨rfl, rfl⟩
end

/-! ### look -/
set_option maxRecDepth 100000 in
set_option maxHeartbeats 2000000 in
theorem look_ (g b : Nat) (s : DS) (nl t n : Nat) (P : Nat → List UInt8) (w : World) (h : Lk w g b s nl) (hu : Up s) (hj : Jn s.plate s.n t n P) (ht : t ≤ topN) (hn : n ≤ topN) :
    Calls Try.prog 33 #[.pointer (some ⟨b, 0, none⟩)] w fun e w' => ∃ s', Fz s s' ∧ Tl g b w w' ∧ Settled s t n P e s' ∧ Lk w' g b s' (if s'.on = true then n else nl) := by
  have hq : Blk (w.alloc (hdO (0, 0, 0))) w.heap.size 76 (hdC (0, 0, 0)) := Blk.new w _ _ rfl
  have hT0 : Tl g b w (w.alloc (hdO (0, 0, 0))) := Tl.alloc _ _
  have h0 := h.alloc (hdO (0, 0, 0))
  have c0 := h.log.cell (j := 0) (u := .pointer (some ⟨g + 2, 0, none⟩)) rfl
  have hgl := h.disk.lt
  have hbl := h.blt
  have hblt := h.lt
  go_enter Try.func33, Try.ntmps33
  go_wp2_with fail
  refine (settle_ g s t n P _ h0.disk h.least hu hj ht hn).mono ?_
  rintro e w1 ⟨s1, hd1, ht1, hfz, hS⟩
  have hq1 := ht1.blk hq (.inr (by omega))
  have hL1 := ht1.blk h0.log (.inr (by omega))
  have hT1 := hT0.trans (.disk ht1)
  have hlq := hq1.lt
  have hlL := hL1.lt
  have x0 := hq1.cell (j := 0) (u := .int .i64 0) rfl
  have x1 := hq1.cell (j := 1) (u := .int .i64 0) rfl
  have x2 := hq1.cell (j := 2) (u := .int .i64 0) rfl
  have y0 := hq1.free 0
  have y1 := hq1.free 1
  have y2 := hq1.free 2
  have l1 := hL1.cell (j := 1) (u := .int .i64 (nl : Int)) rfl
  have f1 := hL1.free 1
  have hne : b ≠ w.heap.size := by omega
  obtain ⟨t', ht1', ht2', rfl, hup, hh, hdt⟩ | ⟨rfl, hf, hoff, hQ⟩ := hS
  · go_wp2
    refine bodyPost_ret (results_hd2 rfl rfl (((hq1.grown (grown_setCell w1 ⟨b, 1, none⟩ (.int .i64 (n : Int))) (by intro e; injection e with e; exact hne e.symm)).set3 (.int .i64 (t' : Int)) (.int .i64 (n : Int)) (.int .i64 0)).alloc _)) rfl ?_
    have k1 : Tn b (b + 1) w1 (w1.setCell ⟨b, 1, none⟩ (.int .i64 (n : Int))) := Tn.set _ _ _ (Nat.le_refl _) (Nat.lt_succ_self _)
    have k2 := Tn.ofGrown (lo := w.heap.size) (hi := w.heap.size + 1) (grown3 (w1.setCell ⟨b, 1, none⟩ (.int .i64 (n : Int))) w.heap.size (.int .i64 (t' : Int)) (.int .i64 (n : Int)) (.int .i64 0)) (Nat.le_refl _) (Nat.lt_succ_self _)
    have hL2 : Blk (w1.setCell ⟨b, 1, none⟩ (.int .i64 (n : Int))) b 63 #[.pointer (some ⟨g + 2, 0, none⟩), .int .i64 (n : Int)] := by simpa using hL1.setCell 1 (.int .i64 (n : Int))
    refine ⟨s1, hfz, ((hT1.trans (.log k1)).new k2 (Nat.le_refl _)).trans (Tl.alloc _ _), .inl ⟨t', ht1', ht2', rfl, hup, hh, hdt⟩, ?_⟩
    rw [if_pos hup.on]
    exact ⟨((hd1.tn k1 (.inl (by omega))).tn k2 (.inl (by omega))).alloc _, (k2.blk hL2 (.inl hbl)).alloc _, hblt, by rw [hfz.n]; exact h.least⟩
  · go_wp2
    refine bodyPost_ret (results_hd2 rfl rfl ((hq1.set3 (.int .i64 0) (.int .i64 0) (.int .i64 0)).alloc _)) rfl ?_
    have k2 := Tn.ofGrown (lo := w.heap.size) (hi := w.heap.size + 1) (grown3 w1 w.heap.size (.int .i64 0) (.int .i64 0) (.int .i64 0)) (Nat.le_refl _) (Nat.lt_succ_self _)
    refine ⟨s1, hfz, (hT1.new k2 (Nat.le_refl _)).trans (Tl.alloc _ _), .inr ⟨rfl, hf, hoff, hQ⟩, ?_⟩
    rw [if_neg (by rw [hoff]; decide)]
    exact ⟨(hd1.tn k2 (.inl (by omega))).alloc _, (k2.blk hL1 (.inl hbl)).alloc _, hblt, by rw [hfz.n]; exact h.least⟩
set_option maxRecDepth 100000 in
set_option maxHeartbeats 2000000 in
theorem look_set (g b : Nat) (s : DS) (nl t n : Nat) (P : Nat → List UInt8) (w : World) (h : Lk w g b s nl) (hs : St s t n P) (ht : t ≤ topN) (hn : n ≤ topN) :
    Calls Try.prog 33 #[.pointer (some ⟨b, 0, none⟩)] w fun e w' => e = .returned (.tuple #[hdV t n 0, .int .i64 0]) ∧ Tn b (b + 1) w w' ∧ Lk w' g b s n := by
  have hq : Blk (w.alloc (hdO (0, 0, 0))) w.heap.size 76 (hdC (0, 0, 0)) := Blk.new w _ _ rfl
  have h0 := h.alloc (hdO (0, 0, 0))
  have c0 := h.log.cell (j := 0) (u := .pointer (some ⟨g + 2, 0, none⟩)) rfl
  have hgl := h.disk.lt
  have hbl := h.blt
  have hblt := h.lt
  go_enter Try.func33, Try.ntmps33
  go_wp2_with fail
  refine (settle_set g s t n _ h0.disk h.least hs.up hs.hd ht hn).mono ?_
  rintro e w1 ⟨rfl, hb1⟩
  have hq1 := hq.keep hb1
  have hL1 := h0.log.keep hb1
  have hd1 := h0.disk.below hb1
  have hB1 : Below w.heap.size w w1 := ((Below.refl _ _).alloc (Nat.le_refl _) _).trans (hb1.mono (by simp))
  have hlq := hq1.lt
  have hlL := hL1.lt
  have x0 := hq1.cell (j := 0) (u := .int .i64 0) rfl
  have x1 := hq1.cell (j := 1) (u := .int .i64 0) rfl
  have x2 := hq1.cell (j := 2) (u := .int .i64 0) rfl
  have y0 := hq1.free 0
  have y1 := hq1.free 1
  have y2 := hq1.free 2
  have l1 := hL1.cell (j := 1) (u := .int .i64 (nl : Int)) rfl
  have f1 := hL1.free 1
  have hne : b ≠ w.heap.size := by omega
  go_wp2
  refine bodyPost_ret (results_hd2 rfl rfl (((hq1.grown (grown_setCell w1 ⟨b, 1, none⟩ (.int .i64 (n : Int))) (by intro e; injection e with e; exact hne e.symm)).set3 (.int .i64 (t : Int)) (.int .i64 (n : Int)) (.int .i64 0)).alloc _)) rfl ?_
  have k1 : Tn b (b + 1) w1 (w1.setCell ⟨b, 1, none⟩ (.int .i64 (n : Int))) := Tn.set _ _ _ (Nat.le_refl _) (Nat.lt_succ_self _)
  have k2 := Tn.ofGrown (lo := w.heap.size) (hi := w.heap.size + 1) (grown3 (w1.setCell ⟨b, 1, none⟩ (.int .i64 (n : Int))) w.heap.size (.int .i64 (t : Int)) (.int .i64 (n : Int)) (.int .i64 0)) (Nat.le_refl _) (Nat.lt_succ_self _)
  have hL2 : Blk (w1.setCell ⟨b, 1, none⟩ (.int .i64 (n : Int))) b 63 #[.pointer (some ⟨g + 2, 0, none⟩), .int .i64 (n : Int)] := by simpa using hL1.setCell 1 (.int .i64 (n : Int))
  exact ⟨rfl, (((Tn.ofBelow hB1 (Nat.le_refl _)).trans k1).new k2 (Nat.le_refl _)).trans (Tn.alloc _ _), ((hd1.tn k1 (.inl (by omega))).tn k2 (.inl (by omega))).alloc _, (k2.blk hL2 (.inl hbl)).alloc _, hblt, h.least⟩
end Go.Proofs.Ytlpbdnncbinbmaa

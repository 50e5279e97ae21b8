/- A disk on the heap, and its small methods: made, has, step, Arm, Cut, On, Dirty, Sectors. -/
import Derived.Test.YtlpbdnncbinbmaaDiskM
import Derived.Test.YtlpbdnncbinbmaaByt
import Derived.LaidEqlPtr
namespace Go.Proofs.Ytlpbdnncbinbmaa
open Go.RowKit Go.Maps

/-- The sectors' bytes, in block g. -/
def PlateAt (w : World) (g n : Nat) (pl : Nat → List UInt8) : Prop := ∀ j, j < n → (pl j).length = 64 ∧ w.rangeAt g (j * 64) (bvs (pl j)) ∧ w.there g (j * 64) 64
theorem PlateAt.congr {w : World} {g n : Nat} {pl pl' : Nat → List UInt8} (h : PlateAt w g n pl) (he : ∀ j, j < n → pl j = pl' j) : PlateAt w g n pl' := fun j hj => by rw [← he j hj]; exact h j hj
theorem PlateAt.tn {w w' : World} {g n lo hi : Nat} {pl : Nat → List UInt8} (h : PlateAt w g n pl) (ht : Tn lo hi w w') (ho : g < lo ∨ hi ≤ g) : PlateAt w' g n pl := fun j hj =>
  ⟨(h j hj).1, ht.range (h j hj).2.1 ho, ht.there (h j hj).2.2 ho⟩
theorem PlateAt.set {w : World} {g n : Nat} {pl : Nat → List UInt8} (h : PlateAt w g n pl) {i : Nat} (hi : i < n) {xs : List UInt8} (hx : xs.length = 64) : PlateAt (w.setCells g (i * 64) (bvs xs)) g n (fun j => if j = i then xs else pl j) := fun j hj => by
  by_cases e : j = i
  · subst e
    simp only [if_true]
    exact ⟨hx, World.rangeAt_setCells_same _ _ _ _ (by rw [bvs_length, hx]; exact (h j hj).2.2), World.there_setCells (h j hj).2.2 _ _ _⟩
  · simp only [if_neg e]
    obtain ⟨h1, h2, h3⟩ := h j hj
    exact ⟨h1, World.rangeAt_setCells_apart h2 _ _ _ (by rw [bvs_length, bvs_length, h1, hx]; omega), World.there_setCells h3 _ _ _⟩

/-- The disk's own block. -/
def DkC (g : Nat) (s : DS) : Array Value := #[.pointer (some ⟨g + 2, 0, none⟩), .slice (some ⟨g, 0, none⟩) s.n s.n, .map (some (g + 1)), .bool s.on, .int .i64 s.fuse]
/-- A disk that New gave: its sectors in block g, its cache in g + 1, itself in g + 2. -/
structure Dk (w : World) (g : Nat) (s : DS) : Prop where
  self : Blk w (g + 2) 84 (DkC g s)
  plate : PlateAt w g s.n s.plate
  cache : ∃ D, w.ownsMap Try.prog 3 secE (g + 1) s.n D ∧ MpIs D s.cache s.n
  most : s.n ≤ 256
  least : 0 < s.n
  fuse : -9223372036854775808 ≤ s.fuse ∧ s.fuse ≤ 9223372036854775807
theorem Dk.lt {w : World} {g : Nat} {s : DS} (h : Dk w g s) : g + 2 < w.heap.size := h.self.lt
theorem Dk.tn {w w' : World} {g lo hi : Nat} {s : DS} (h : Dk w g s) (ht : Tn lo hi w w') (ho : g + 2 < lo ∨ hi ≤ g) : Dk w' g s :=
  ⟨ht.blk h.self (by omega), h.plate.tn ht (by omega), by obtain ⟨D, h1, h2⟩ := h.cache; exact ⟨D, ht.map h1 (by omega), h2⟩, h.most, h.least, h.fuse⟩
theorem Dk.below {w w' : World} {g : Nat} {s : DS} (h : Dk w g s) (hb : Below w.heap.size w w') : Dk w' g s := h.tn (Tn.ofBelow (lo := 0) (hi := 0) hb (Nat.le_refl _)) (by omega)
theorem Dk.drew {w : World} {g : Nat} {s : DS} (h : Dk w g s) : Dk w.drew g s := ⟨h.self, h.plate, h.cache, h.most, h.least, h.fuse⟩
theorem Dk.drewN {w : World} {g : Nat} {s : DS} (h : Dk w g s) (n : Nat) : Dk (w.drewN n) g s := ⟨h.self, h.plate, h.cache, h.most, h.least, h.fuse⟩
theorem Dk.alloc {w : World} {g : Nat} {s : DS} (h : Dk w g s) (o : Obj) : Dk (w.alloc o) g s := h.below ((Below.refl _ _).alloc (Nat.le_refl _) _)
theorem Dk.congr {w : World} {g : Nat} {s s' : DS} (h : Dk w g s) (h1 : s.n = s'.n) (h2 : ∀ j, j < s.n → s.plate j = s'.plate j) (h3 : ∀ j, j < s.n → s.cache j = s'.cache j) (h4 : s.on = s'.on) (h5 : s.fuse = s'.fuse) : Dk w g s' := by
  obtain ⟨n, p, c, o, f⟩ := s
  obtain ⟨n', p', c', o', f'⟩ := s'
  simp only at h1 h2 h3 h4 h5
  subst h1 h4 h5
  refine ⟨h.self, h.plate.congr h2, ?_, h.most, h.least, h.fuse⟩
  obtain ⟨D, hD, hm⟩ := h.cache
  exact ⟨D, hD, hm.tidy, fun j hj => by simp only; rw [← h3 j hj]; exact hm.has j hj, fun j hj xs hx => hm.at_ j hj xs (by simp only; rw [h3 j hj]; exact hx), hm.out, by simp only; rw [hm.size]; exact cnt_congr h3⟩
/-- Its own cells are written: power and fuse. -/
theorem Dk.cells {w w' : World} {g : Nat} {s : DS} (h : Dk w g s) (ht : Tn (g + 2) (g + 3) w w') (on : Bool) (fuse : Int) (hb : Blk w' (g + 2) 84 (DkC g { s with on := on, fuse := fuse })) (hf : -9223372036854775808 ≤ fuse ∧ fuse ≤ 9223372036854775807) : Dk w' g { s with on := on, fuse := fuse } :=
  ⟨hb, h.plate.tn ht (by omega), by obtain ⟨D, h1, h2⟩ := h.cache; exact ⟨D, ht.map h1 (by omega), h2⟩, h.most, h.least, hf⟩

theorem size_disk : (Try.prog.info? 84).map (·.size) = some 5 := by kernel_rfl
theorem eql_disk (a : Addr) (w : World) : (binOp .eql 23 (.pointer (some a)) (.pointer (some a))).run Try.prog w = .ok (.bool true) w := by
  obtain ⟨j, hj, _⟩ := Option.map_eq_some_iff.1 size_disk
  exact run_eql_ptr_same w a Try.underlying23 hj
theorem eql_disk_none (a : Addr) (w : World) : (binOp .eql 23 (.pointer none) (.pointer (some a))).run Try.prog w = .ok (.bool false) w := by
  have h : ∀ d : Nat, (Op.equalIn (d + 1) 23 (.pointer none) (.pointer (some a))).run Try.prog w = .ok false w := fun d => by
    simp [Op.equalIn, run_underlying Try.underlying23]
  simp only [binOp]
  simp [Op.equal, Op.maxDepth, h 9999]

section
variable (g : Nat) (s : DS) (w : World)
set_option maxRecDepth 100000 in
theorem made_ (h : Dk w g s) : Calls Try.prog 37 #[.pointer (some ⟨g + 2, 0, none⟩)] w fun e w' => e = .returned (.bool true) ∧ w = w' := by
  have c0 := h.self.cell (j := 0) (u := .pointer (some ⟨g + 2, 0, none⟩)) rfl
  have q := eql_disk ⟨g + 2, 0, none⟩ w
  go_enter Try.func37, Try.ntmps37
  go_wp2
  go_ret
  exact ⟨rfl, rfl⟩
set_option maxRecDepth 100000 in
theorem made_nil : Calls Try.prog 37 #[.pointer none] w fun e w' => e = .returned (.bool false) ∧ w = w' := by
  go_enter Try.func37, Try.ntmps37
  go_wp2
  go_ret
  exact ⟨rfl, rfl⟩
set_option maxRecDepth 100000 in
theorem made_zero (b : Nat) (c0 : w.cell? ⟨b, 0, none⟩ = some (.pointer none)) : Calls Try.prog 37 #[.pointer (some ⟨b, 0, none⟩)] w fun e w' => e = .returned (.bool false) ∧ w = w' := by
  have q := eql_disk_none ⟨b, 0, none⟩ w
  go_enter Try.func37, Try.ntmps37
  go_wp2
  go_ret
  exact ⟨rfl, rfl⟩
set_option maxRecDepth 100000 in
theorem has_ (i : Int) (h : Dk w g s) : Calls Try.prog 52 #[.pointer (some ⟨g + 2, 0, none⟩), .int .i64 i] w fun e w' => e = .returned (.bool (decide (s.has i))) ∧ w = w' := by
  have c1 := h.self.cell (j := 1) (u := .slice (some ⟨g, 0, none⟩) s.n s.n) rfl
  by_cases h0 : 0 ≤ i
  · by_cases h1 : i < s.n
    · have hd : decide (s.has i) = true := decide_eq_true ⟨h0, h1⟩
      have Hd := Lib.hid hd
      clear hd
      go_enter Try.func52, Try.ntmps52
      go_wp2
      go_ret
      rw [Hd.out]
      exact ⟨rfl, rfl⟩
    · have hd : decide (s.has i) = false := decide_eq_false fun e => h1 e.2
      have Hd := Lib.hid hd
      clear hd
      go_enter Try.func52, Try.ntmps52
      go_wp2
      go_ret
      rw [Hd.out]
      exact ⟨rfl, rfl⟩
  · have hd : decide (s.has i) = false := decide_eq_false fun e => h0 e.1
    have Hd := Lib.hid hd
    clear hd
    go_enter Try.func52, Try.ntmps52
    go_wp2
    go_ret
    rw [Hd.out]
    exact ⟨rfl, rfl⟩
set_option maxRecDepth 100000 in
theorem step_ (h : Dk w g s) : Calls Try.prog 57 #[.pointer (some ⟨g + 2, 0, none⟩)] w fun e w' => e = .returned (.bool s.step.on) ∧ Dk w' g s.step ∧ Tn (g + 2) (g + 3) w w' := by
  have c3 := h.self.cell (j := 3) (u := .bool s.on) rfl
  have c4 := h.self.cell (j := 4) (u := .int .i64 s.fuse) rfl
  have f3 := h.self.free 3
  have f4 := h.self.free 4
  have hl := h.lt
  have hf1 := h.fuse.1
  have hf2 := h.fuse.2
  by_cases h0 : s.fuse = 0
  · have hs : s.step = { s with on := false } := by simp [DS.step, h0]
    have Hs := Lib.hid hs
    have H0 := Lib.hid h0
    rw [h0] at c4
    clear hs h0
    go_enter Try.func57, Try.ntmps57
    go_wp2
    go_ret
    rw [Hs.out]
    have ht : Tn (g + 2) (g + 3) w (w.setCell ⟨g + 2, 3, none⟩ (.bool false)) := Tn.set _ _ _ (by omega) (by omega)
    exact ⟨rfl, h.cells ht false s.fuse (h.self.setCell 3 _) h.fuse, ht⟩
  · have n0 : (s.fuse == 0) = false := by simpa using h0
    cases ho : s.on with
    | false =>
      have hs : s.step = s := by simp [DS.step, h0, ho]
      have Hs := Lib.hid hs
      rw [ho] at c3
      have Ho := Lib.hid ho
      clear hs h0 ho
      go_enter Try.func57, Try.ntmps57
      go_wp2
      go_ret
      rw [Hs.out]
      exact ⟨by rw [Ho.out]; rfl, h, Tn.refl _ _ _⟩
    | true =>
      rw [ho] at c3
      by_cases h1 : 0 < s.fuse
      · have hs : s.step = { s with fuse := s.fuse - 1 } := by simp [DS.step, h0, ho, h1]
        have Hs := Lib.hid hs
        have Ho := Lib.hid ho
        clear hs h0 ho
        go_enter Try.func57, Try.ntmps57
        go_wp2
        go_ret
        rw [Hs.out]
        have ht : Tn (g + 2) (g + 3) w (w.setCell ⟨g + 2, 4, none⟩ (.int .i64 (s.fuse - 1))) := Tn.set _ _ _ (by omega) (by omega)
        exact ⟨by rw [Ho.out]; rfl, h.cells ht s.on (s.fuse - 1) (h.self.setCell 4 _) (by omega), ht⟩
      · have hs : s.step = s := by simp [DS.step, h0, h1]
        have Hs := Lib.hid hs
        have Ho := Lib.hid ho
        clear hs h0 ho
        go_enter Try.func57, Try.ntmps57
        go_wp2
        go_ret
        rw [Hs.out]
        exact ⟨by rw [Ho.out]; rfl, h, Tn.refl _ _ _⟩
set_option maxRecDepth 100000 in
theorem arm_ (k : Int) (h : Dk w g s) (hk : -9223372036854775808 ≤ k ∧ k ≤ 9223372036854775807) : Calls Try.prog 20 #[.pointer (some ⟨g + 2, 0, none⟩), .int .i64 k] w fun e w' => e = .returned (.tuple #[]) ∧ Dk w' g (s.arm k) ∧ Tn (g + 2) (g + 3) w w' := by
  have f4 := h.self.free 4
  have c4 := h.self.cell (j := 4) (u := .int .i64 s.fuse) rfl
  go_enter Try.func20, Try.ntmps20
  go_wp2_with fail
  refine (made_ g s w h).mono ?_
  rintro e w' ⟨rfl, rfl⟩
  go_wp2
  go_end0
  have ht : Tn (g + 2) (g + 3) w (w.setCell ⟨g + 2, 4, none⟩ (.int .i64 k)) := Tn.set _ _ _ (by omega) (by omega)
  exact ⟨rfl, h.cells ht s.on k (h.self.setCell 4 _) hk, ht⟩
set_option maxRecDepth 100000 in
theorem cut_ (h : Dk w g s) : Calls Try.prog 26 #[.pointer (some ⟨g + 2, 0, none⟩)] w fun e w' => e = .returned (.tuple #[]) ∧ Dk w' g s.cut ∧ Tn (g + 2) (g + 3) w w' := by
  have f3 := h.self.free 3
  have c3 := h.self.cell (j := 3) (u := .bool s.on) rfl
  go_enter Try.func26, Try.ntmps26
  go_wp2_with fail
  refine (made_ g s w h).mono ?_
  rintro e w' ⟨rfl, rfl⟩
  go_wp2
  go_end0
  have ht : Tn (g + 2) (g + 3) w (w.setCell ⟨g + 2, 3, none⟩ (.bool false)) := Tn.set _ _ _ (by omega) (by omega)
  exact ⟨rfl, h.cells ht false s.fuse (h.self.setCell 3 _) h.fuse, ht⟩
set_option maxRecDepth 100000 in
theorem on_ (h : Dk w g s) : Calls Try.prog 38 #[.pointer (some ⟨g + 2, 0, none⟩)] w fun e w' => e = .returned (.bool s.on) ∧ w = w' := by
  have c3 := h.self.cell (j := 3) (u := .bool s.on) rfl
  go_enter Try.func38, Try.ntmps38
  go_wp2_with fail
  refine (made_ g s w h).mono ?_
  rintro e w' ⟨rfl, rfl⟩
  go_wp2
  go_ret
  exact ⟨rfl, rfl⟩
set_option maxRecDepth 100000 in
theorem sectors_ (h : Dk w g s) : Calls Try.prog 39 #[.pointer (some ⟨g + 2, 0, none⟩)] w fun e w' => e = .returned (.int .i64 (s.n : Int)) ∧ w = w' := by
  have c1 := h.self.cell (j := 1) (u := .slice (some ⟨g, 0, none⟩) s.n s.n) rfl
  go_enter Try.func39, Try.ntmps39
  go_wp2_with fail
  refine (made_ g s w h).mono ?_
  rintro e w' ⟨rfl, rfl⟩
  go_wp2
  go_ret
  exact ⟨rfl, rfl⟩
end
end Go.Proofs.Ytlpbdnncbinbmaa

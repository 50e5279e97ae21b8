/- The document's disk (jackstayref03) on the heap, and its small methods: step, Arm, Cut, Dirty. -/
import Derived.Test.YtbppkdfmiegipaaDiskX
import Derived.Lib.MinMax
namespace Go.Proofs.Ytbppkdfmiegipaa
open Go.RowKit Go.Maps

/-- Where the document's disk lies: its rows of sectors, of cached sectors, of what is cached, and itself; the rows' capacities; the least block of all. -/
structure RG where
  lo : Nat
  pb : Nat
  cb : Nat
  qb : Nat
  rb : Nat
  pc : Nat
  cc : Nat
def RG.ok (G : RG) (d : Nat) : Prop := G.lo ≤ d ∧ d ≠ G.pb ∧ d ≠ G.cb ∧ d ≠ G.qb ∧ d ≠ G.rb
structure RG.apart (G : RG) : Prop where
  p : G.lo ≤ G.pb ∧ G.pb < G.rb
  c : G.lo ≤ G.cb ∧ G.cb < G.rb
  q : G.lo ≤ G.qb ∧ G.qb < G.rb
  pc : G.pb ≠ G.cb
  pq : G.pb ≠ G.qb
  cq : G.cb ≠ G.qb
def RkC (G : RG) (s : DS) : Array Value := #[.slice (some ⟨G.pb, 0, none⟩) s.n G.pc, .slice (some ⟨G.cb, 0, none⟩) s.n G.cc, .slice (some ⟨G.qb, 0, none⟩) s.n s.n, .bool s.on, .int .i64 (max s.fuse (-1))]
/-- A sector's bytes, as a slice. -/
def Sec (w : World) (G : RG) (v : Value) (x : List UInt8) : Prop :=
  ∃ d c, v = .slice (some ⟨d, 0, none⟩) 64 c ∧ 64 ≤ c ∧ c ≤ 9223372036854775807 ∧ Bs w (some ⟨d, 0, none⟩) 64 x ∧ G.ok d
structure Rk (w : World) (G : RG) (s : DS) : Prop where
  self : Blk w G.rb 30 (RkC G s)
  plate : ∀ j, j < s.n → ∃ v, w.cell? ⟨G.pb, j, none⟩ = some v ∧ w.frozen? ⟨G.pb, j, none⟩ = false ∧ Sec w G v (s.plate j)
  cache : ∀ j, j < s.n → ∃ A m c, w.cell? ⟨G.cb, j, none⟩ = some (.slice A m c) ∧ w.frozen? ⟨G.cb, j, none⟩ = false ∧ ∀ x, s.cache j = some x → Sec w G (.slice A m c) x
  cached : ∀ j, j < s.n → w.cell? ⟨G.qb, j, none⟩ = some (.bool (s.cache j).isSome) ∧ w.frozen? ⟨G.qb, j, none⟩ = false
  apart : G.apart
  most : s.n ≤ 256
  least : 0 < s.n
  fuse : -9223372036854775808 ≤ s.fuse ∧ s.fuse ≤ 9223372036854775807
  caps : s.n ≤ G.pc ∧ G.pc ≤ 9223372036854775807 ∧ s.n ≤ G.cc ∧ G.cc ≤ 9223372036854775807
theorem Rk.lt {w : World} {G : RG} {s : DS} (h : Rk w G s) : G.rb < w.heap.size := h.self.lt
theorem Tn.frozen {lo hi : Nat} {w w' : World} (h : Tn lo hi w w') {p : Addr} {u : Value} (hc : w.cell? p = some u) (hf : w.frozen? p = false) (ho : p.block < lo ∨ hi ≤ p.block) : w'.frozen? p = false := by
  rw [World.frozen?_of_block (h.block _ (cell_lt hc) ho)]; exact hf
theorem Sec.tn {w w' : World} {G : RG} {v : Value} {x : List UInt8} {lo hi : Nat} (h : Sec w G v x) (ht : Tn lo hi w w') (ho : ∀ d, G.ok d → d < lo ∨ hi ≤ d) : Sec w' G v x := by
  obtain ⟨d, c, e, h1, h2, h3, h4⟩ := h
  exact ⟨d, c, e, h1, h2, ht.bs h3 fun a ha _ => by injection ha with ha; subst ha; exact ho d h4, h4⟩
theorem Rk.tn {w w' : World} {G : RG} {s : DS} {lo hi : Nat} (h : Rk w G s) (ht : Tn lo hi w w') (ho : hi ≤ G.lo) : Rk w' G s where
  self := ht.blk h.self (by have := h.apart.p; omega)
  plate j hj := by
    obtain ⟨v, h1, h2, h3⟩ := h.plate j hj
    have := h.apart.p
    exact ⟨v, ht.cell h1 (by simp; omega), ht.frozen h1 h2 (by simp; omega), h3.tn ht fun d hd => by have := hd.1; omega⟩
  cache j hj := by
    obtain ⟨A, m, c, h1, h2, h3⟩ := h.cache j hj
    have := h.apart.c
    exact ⟨A, m, c, ht.cell h1 (by simp; omega), ht.frozen h1 h2 (by simp; omega), fun x hx => (h3 x hx).tn ht fun d hd => by have := hd.1; omega⟩
  cached j hj := by
    obtain ⟨h1, h2⟩ := h.cached j hj
    have := h.apart.q
    exact ⟨ht.cell h1 (by simp; omega), ht.frozen h1 h2 (by simp; omega)⟩
  apart := h.apart
  most := h.most
  least := h.least
  fuse := h.fuse
  caps := h.caps
theorem Rk.below {w w' : World} {G : RG} {s : DS} (h : Rk w G s) (hb : Below w.heap.size w w') : Rk w' G s := h.tn (Tn.ofBelow (lo := 0) (hi := 0) hb (Nat.le_refl _)) (Nat.zero_le _)
theorem Rk.drew {w : World} {G : RG} {s : DS} (h : Rk w G s) : Rk w.drew G s := ⟨h.self, h.plate, h.cache, h.cached, h.apart, h.most, h.least, h.fuse, h.caps⟩
theorem Rk.drewN {w : World} {G : RG} {s : DS} (h : Rk w G s) (n : Nat) : Rk (w.drewN n) G s := ⟨h.self, h.plate, h.cache, h.cached, h.apart, h.most, h.least, h.fuse, h.caps⟩
theorem Rk.congr {w : World} {G : RG} {s s' : DS} (h : Rk w G s) (h1 : s.n = s'.n) (h2 : ∀ j, j < s.n → s.plate j = s'.plate j) (h3 : ∀ j, j < s.n → s.cache j = s'.cache j) (h4 : s.on = s'.on) (h5 : s.fuse = s'.fuse) : Rk w G s' := by
  obtain ⟨n, p, c, o, f⟩ := s
  obtain ⟨n', p', c', o', f'⟩ := s'
  simp only at h1 h2 h3 h4 h5
  subst h1 h4 h5
  exact ⟨h.self, fun j hj => by simp only; rw [← h2 j hj]; exact h.plate j hj, fun j hj => by simp only; rw [← h3 j hj]; exact h.cache j hj, fun j hj => by simp only; rw [← h3 j hj]; exact h.cached j hj, h.apart, h.most, h.least, h.fuse, h.caps⟩
/-- Its own cells are written: power and fuse. -/
theorem Rk.cells {w w' : World} {G : RG} {s : DS} (h : Rk w G s) (ht : Tn G.rb (G.rb + 1) w w') (on : Bool) (fuse : Int) (hb : Blk w' G.rb 30 (RkC G { s with on := on, fuse := fuse })) (hf : -9223372036854775808 ≤ fuse ∧ fuse ≤ 9223372036854775807) : Rk w' G { s with on := on, fuse := fuse } := by
  have hd : ∀ d, G.ok d → d < G.rb ∨ G.rb + 1 ≤ d := fun d hd => by have := hd.2.2.2.2; omega
  refine ⟨hb, fun j hj => ?_, fun j hj => ?_, fun j hj => ?_, h.apart, h.most, h.least, hf, h.caps⟩
  · obtain ⟨v, h1, h2, h3⟩ := h.plate j hj
    have := h.apart.p
    exact ⟨v, ht.cell h1 (by simp; omega), ht.frozen h1 h2 (by simp; omega), h3.tn ht hd⟩
  · obtain ⟨A, m, c, h1, h2, h3⟩ := h.cache j hj
    have := h.apart.c
    exact ⟨A, m, c, ht.cell h1 (by simp; omega), ht.frozen h1 h2 (by simp; omega), fun x hx => (h3 x hx).tn ht hd⟩
  · obtain ⟨h1, h2⟩ := h.cached j hj
    have := h.apart.q
    exact ⟨ht.cell h1 (by simp; omega), ht.frozen h1 h2 (by simp; omega)⟩

section
variable (G : RG) (s : DS) (w : World)
theorem max_pos {f : Int} (h : 0 < f) : max f (-1) = f := by omega
set_option maxRecDepth 100000 in
theorem rstep_ (h : Rk w G s) : Calls Try.prog 34 #[.pointer (some ⟨G.rb, 0, none⟩)] w fun e w' => e = .returned (.bool s.step.on) ∧ Rk w' G s.step ∧ Tn G.rb (G.rb + 1) w w' := by
  have c3 := h.self.cell (j := 3) (u := .bool s.on) rfl
  have c4 := h.self.cell (j := 4) (u := .int .i64 (max s.fuse (-1))) rfl
  have f3 := h.self.free 3
  have f4 := h.self.free 4
  have hl := h.lt
  have hf1 := h.fuse.1
  have hf2 := h.fuse.2
  cases ho : s.on with
  | false =>
    have hs : s.step.on = false ∧ s.step.fuse = s.fuse := by
      unfold DS.step
      split
      · exact ⟨rfl, rfl⟩
      · rw [if_neg (by rw [ho]; simp)]; exact ⟨ho, rfl⟩
    have hS : Rk w G s.step := h.congr (step_n s).symm (fun j _ => by rw [step_plate]) (fun j _ => by rw [step_cache]) (ho.trans hs.1.symm) hs.2.symm
    have Hs := Lib.hid hs.1
    rw [ho] at c3
    clear hs ho
    go_enter Try.func34, Try.ntmps34
    go_wp2
    go_ret
    rw [Hs.out]
    exact ⟨rfl, hS, Tn.refl _ _ _⟩
  | true =>
    rw [ho] at c3
    by_cases h0 : s.fuse = 0
    · have hs : s.step = { s with on := false } := by simp [DS.step, h0]
      have Hs := Lib.hid hs
      have hm : max s.fuse (-1) = 0 := by omega
      rw [hm] at c4
      clear hs h0 hm ho
      go_enter Try.func34, Try.ntmps34
      go_wp2
      go_ret
      rw [Hs.out]
      have ht : Tn G.rb (G.rb + 1) w (w.setCell ⟨G.rb, 3, none⟩ (.bool false)) := Tn.set _ _ _ (Nat.le_refl _) (Nat.lt_succ_self _)
      exact ⟨rfl, h.cells ht false s.fuse (h.self.setCell 3 _) h.fuse, ht⟩
    · by_cases h1 : 0 < s.fuse
      · have hs : s.step = { s with fuse := s.fuse - 1 } := by simp [DS.step, h0, ho, h1]
        have Hs := Lib.hid hs
        have Ho := Lib.hid ho
        rw [max_pos h1] at c4
        have n0 : (s.fuse == 0) = false := by simpa using h0
        have Hm := Lib.hid (show max (s.fuse - 1) (-1) = s.fuse - 1 by omega)
        clear hs h0 ho
        go_enter Try.func34, Try.ntmps34
        go_wp2
        go_ret
        rw [Hs.out]
        have ht : Tn G.rb (G.rb + 1) w (w.setCell ⟨G.rb, 4, none⟩ (.int .i64 (s.fuse - 1))) := Tn.set _ _ _ (Nat.le_refl _) (Nat.lt_succ_self _)
        have hb := h.self.setCell 4 (.int .i64 (s.fuse - 1))
        refine ⟨by rw [Ho.out]; rfl, h.cells ht s.on (s.fuse - 1) ?_ (by omega), ht⟩
        unfold RkC
        simp only
        rw [Hm.out]
        exact hb
      · have hs : s.step = s := by simp [DS.step, h0, h1]
        have Hs := Lib.hid hs
        have Ho := Lib.hid ho
        have hm : max s.fuse (-1) = -1 := by omega
        rw [hm] at c4
        clear hs ho hm h0
        go_enter Try.func34, Try.ntmps34
        go_wp2
        go_ret
        rw [Hs.out]
        exact ⟨by rw [Ho.out]; rfl, h, Tn.refl _ _ _⟩
set_option maxRecDepth 100000 in
theorem rarm_ (k : Int) (h : Rk w G s) (hk : -9223372036854775808 ≤ k ∧ k ≤ 9223372036854775807) : Calls Try.prog 20 #[.pointer (some ⟨G.rb, 0, none⟩), .int .i64 k] w fun e w' => e = .returned (.tuple #[]) ∧ Rk w' G (s.arm k) ∧ Tn G.rb (G.rb + 1) w w' := by
  have f4 := h.self.free 4
  have c4 := h.self.cell (j := 4) (u := .int .i64 (max s.fuse (-1))) rfl
  go_enter Try.func20, Try.ntmps20
  go_wp2
  go_end0
  have ht : Tn G.rb (G.rb + 1) w (w.setCell ⟨G.rb, 4, none⟩ (.int .i64 (max k (-1)))) := Tn.set _ _ _ (Nat.le_refl _) (Nat.lt_succ_self _)
  exact ⟨rfl, h.cells ht s.on k (h.self.setCell 4 _) hk, ht⟩
set_option maxRecDepth 100000 in
theorem rcut_ (h : Rk w G s) : Calls Try.prog 22 #[.pointer (some ⟨G.rb, 0, none⟩)] w fun e w' => e = .returned (.tuple #[]) ∧ Rk w' G s.cut ∧ Tn G.rb (G.rb + 1) w w' := by
  have f3 := h.self.free 3
  have c3 := h.self.cell (j := 3) (u := .bool s.on) rfl
  go_enter Try.func22, Try.ntmps22
  go_wp2
  go_end0
  have ht : Tn G.rb (G.rb + 1) w (w.setCell ⟨G.rb, 3, none⟩ (.bool false)) := Tn.set _ _ _ (Nat.le_refl _) (Nat.lt_succ_self _)
  exact ⟨rfl, h.cells ht false s.fuse (h.self.setCell 3 _) h.fuse, ht⟩
set_option maxRecDepth 100000 in
theorem rdirty_ (h : Rk w G s) : Calls Try.prog 27 #[.pointer (some ⟨G.rb, 0, none⟩)] w fun e w' => e = .returned (.int .i64 (s.dirty : Int)) ∧ w = w' := by
  have c2 := h.self.cell (j := 2) (u := .slice (some ⟨G.qb, 0, none⟩) s.n s.n) rfl
  have hmost := h.most
  go_enter Try.func27, Try.ntmps27
  go_wp2_with fail
  go_loopw [3, 4] (fun nv iv wr => ∃ i : Nat, i ≤ s.n ∧ iv = .int .i64 (i : Int) ∧ nv = .int .i64 (cnt s.cache i : Int) ∧ w = wr) (fun _ iv _ => s.n - (intOf iv).toNat)
  case atStart => exact ⟨0, Nat.zero_le _, rfl, rfl, rfl⟩
  case round =>
    obtain ⟨i, hi, rfl, rfl, rfl⟩ := hrel
    by_cases hlt : i < s.n
    · have hil : (i : Int) < (s.n : Int) := by omega
      have hcq := (h.cached i hlt).1
      have hcl := cnt_le s.cache i
      cases hc : s.cache i with
      | none =>
        rw [hc] at hcq
        have H1 := Lib.hid (show cnt s.cache (i + 1) = cnt s.cache i by simp [cnt, hc])
        clear hc
        go_wp2_with fail
        go_roundw
        case rel => exact ⟨i + 1, by omega, by go_num, by rw [H1.out], trivial⟩
        case measure => simp [intOf]; omega
      | some x =>
        rw [hc] at hcq
        have H1 := Lib.hid (show cnt s.cache (i + 1) = cnt s.cache i + 1 by simp [cnt, hc])
        clear hc
        go_wp2_with fail
        go_roundw
        case rel => exact ⟨i + 1, by omega, by go_num, by rw [H1.out]; go_num, trivial⟩
        case measure => simp [intOf]; omega
    · have hin : (s.n : Int) ≤ (i : Int) := by omega
      have He := Lib.hid (show i = s.n by omega)
      go_wp2
      go_ret
      exact ⟨by rw [He.out]; rfl, rfl⟩
end
end Go.Proofs.Ytbppkdfmiegipaa

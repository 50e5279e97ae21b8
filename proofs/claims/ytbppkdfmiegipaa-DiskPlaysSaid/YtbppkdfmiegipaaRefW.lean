/- The document's disk: Read and Write. -/
import Derived.Test.YtbppkdfmiegipaaRefD
import Derived.Deep.RegionHeld3
namespace Go.Proofs.Ytbppkdfmiegipaa
open Go.RowKit Go.Maps

/-- One cell of a row is written. -/
theorem Sec.set {w : World} {G : RG} {v : Value} {x : List UInt8} (h : Sec w G v x) (b : Nat) (hb : ¬ G.ok b) (i : Nat) (u : Value) : Sec (w.setCell ⟨b, i, none⟩ u) G v x :=
  h.tn (Tn.set (lo := b) (hi := b + 1) w i u (Nat.le_refl _) (Nat.lt_succ_self _)) fun d hd => by
    have : d ≠ b := fun e => hb (e ▸ hd)
    omega
theorem RG.nok (G : RG) : ¬ G.ok G.pb ∧ ¬ G.ok G.cb ∧ ¬ G.ok G.qb ∧ ¬ G.ok G.rb := ⟨fun h => h.2.1 rfl, fun h => h.2.2.1 rfl, fun h => h.2.2.2.1 rfl, fun h => h.2.2.2.2 rfl⟩
theorem cell_far {w : World} {b i b' i' : Nat} {u v : Value} (h : w.cell? ⟨b', i', none⟩ = some v) (hne : b ≠ b') : (w.setCell ⟨b, i, none⟩ u).cell? ⟨b', i', none⟩ = some v := by
  rw [World.cell?_setCell_far w ⟨b, i, none⟩ ⟨b', i', none⟩ u (by simpa using hne)]; exact h
theorem cell_next {w : World} {b i i' : Nat} {u v : Value} (h : w.cell? ⟨b, i', none⟩ = some v) (hne : i ≠ i') : (w.setCell ⟨b, i, none⟩ u).cell? ⟨b, i', none⟩ = some v := by
  rw [World.cell?_setCell_other w ⟨b, i, none⟩ ⟨b, i', none⟩ u (by intro e; injection e with _ e _; exact hne e)]; exact h
theorem cell_same {w : World} {b i : Nat} {u v : Value} (h : w.cell? ⟨b, i, none⟩ = some v) : (w.setCell ⟨b, i, none⟩ u).cell? ⟨b, i, none⟩ = some u := World.cell?_setCell_same w ⟨b, i, none⟩ u h
theorem free_set {w : World} {b i : Nat} {u : Value} {p : Addr} (h : w.frozen? p = false) : (w.setCell ⟨b, i, none⟩ u).frozen? p = false := by rw [World.frozen?_setCell]; exact h

/-- A sector is put into the cache. -/
theorem Rk.put {w : World} {G : RG} {s : DS} (h : Rk w G s) {i : Nat} (hi : i < s.n) {A : Option Addr} {m c : Nat} {x : List UInt8} (hv : Sec w G (.slice A m c) x) :
    Rk ((w.setCell ⟨G.cb, i, none⟩ (.slice A m c)).setCell ⟨G.qb, i, none⟩ (.bool true)) G { s with cache := put s.cache i (some x) } := by
  have ha := h.apart
  obtain ⟨n1, n2, n3, n4⟩ := G.nok
  have hcr : G.cb ≠ G.rb := by have := ha.c; omega
  have hqr : G.qb ≠ G.rb := by have := ha.q; omega
  refine ⟨?_, fun j hj => ?_, fun j hj => ?_, fun j hj => ?_, ha, h.most, h.least, h.fuse, h.caps⟩
  · have := ((Tn.set (lo := G.cb) (hi := G.cb + 1) w i (.slice A m c) (Nat.le_refl _) (Nat.lt_succ_self _)).blk h.self (by omega))
    exact (Tn.set (lo := G.qb) (hi := G.qb + 1) _ i (.bool true) (Nat.le_refl _) (Nat.lt_succ_self _)).blk this (by omega)
  · obtain ⟨v, h1, h2, h3⟩ := h.plate j hj
    exact ⟨v, cell_far (cell_far h1 ha.pc.symm) ha.pq.symm, free_set (free_set h2), (h3.set _ n2 _ _).set _ n3 _ _⟩
  · by_cases e : j = i
    · subst e
      obtain ⟨A', m', c', h1, h2, h3⟩ := h.cache j hj
      refine ⟨A, m, c, cell_far (cell_same h1) ha.cq.symm, free_set (free_set h2), fun y hy => ?_⟩
      simp only [put_same, Option.some.injEq] at hy
      subst hy
      exact (hv.set _ n2 _ _).set _ n3 _ _
    · obtain ⟨A', m', c', h1, h2, h3⟩ := h.cache j hj
      refine ⟨A', m', c', cell_far (cell_next h1 (Ne.symm e)) ha.cq.symm, free_set (free_set h2), fun y hy => ?_⟩
      simp only [put_other _ _ e] at hy
      exact ((h3 y hy).set _ n2 _ _).set _ n3 _ _
  · obtain ⟨h1, h2⟩ := h.cached j hj
    by_cases e : j = i
    · subst e
      simp only [put_same]
      exact ⟨cell_same (cell_far h1 ha.cq), free_set (free_set h2)⟩
    · simp only [put_other _ _ e]
      exact ⟨cell_next (cell_far h1 ha.cq) (Ne.symm e), free_set (free_set h2)⟩

section
variable (G : RG) (s : DS)
set_option maxRecDepth 100000 in
theorem rread_bad (i : Int) (w : World) (h : Rk w G s) (hh : ¬ s.has i) : Calls Try.prog 15 #[.pointer (some ⟨G.rb, 0, none⟩), .int .i64 i] w fun e w' => e = .returned (.tuple #[.slice none 0 0, .int .i64 1]) ∧ w = w' := by
  have c0 := h.self.cell (j := 0) (u := .slice (some ⟨G.pb, 0, none⟩) s.n G.pc) rfl
  by_cases h0 : i < 0
  · go_enter Try.func15, Try.ntmps15
    go_wp2
    go_ret2
    exact ⟨rfl, rfl⟩
  · have h1 : (s.n : Int) ≤ i := by unfold DS.has at hh; omega
    have h0' : 0 ≤ i := by omega
    clear hh h0
    go_enter Try.func15, Try.ntmps15
    go_wp2
    go_ret2
    exact ⟨rfl, rfl⟩
set_option maxRecDepth 100000 in
theorem rread_off (i : Nat) (w : World) (h : Rk w G s) (hi : i < s.n) (ho : s.on = false) : Calls Try.prog 15 #[.pointer (some ⟨G.rb, 0, none⟩), .int .i64 (i : Int)] w fun e w' => e = .returned (.tuple #[.slice none 0 0, .int .i64 8]) ∧ w = w' := by
  have c0 := h.self.cell (j := 0) (u := .slice (some ⟨G.pb, 0, none⟩) s.n G.pc) rfl
  have c3 := h.self.cell (j := 3) (u := .bool s.on) rfl
  rw [ho] at c3
  have hil : (i : Int) < (s.n : Int) := by omega
  clear ho
  go_enter Try.func15, Try.ntmps15
  go_wp2
  go_ret2
  exact ⟨rfl, rfl⟩
set_option maxRecDepth 100000 in
set_option maxHeartbeats 1000000 in
theorem rread_on (i : Nat) (w : World) (h : Rk w G s) (hi : i < s.n) (ho : s.on = true) : Calls Try.prog 15 #[.pointer (some ⟨G.rb, 0, none⟩), .int .i64 (i : Int)] w fun e w' => ∃ A c, e = .returned (.tuple #[.slice A 64 c, .int .i64 0]) ∧ Bs w' A 64 (s.look i) ∧ A ≠ none ∧ Below w.heap.size w w' := by
  have c0 := h.self.cell (j := 0) (u := .slice (some ⟨G.pb, 0, none⟩) s.n G.pc) rfl
  have c1 := h.self.cell (j := 1) (u := .slice (some ⟨G.cb, 0, none⟩) s.n G.cc) rfl
  have c2 := h.self.cell (j := 2) (u := .slice (some ⟨G.qb, 0, none⟩) s.n s.n) rfl
  have c3 := h.self.cell (j := 3) (u := .bool s.on) rfl
  rw [ho] at c3
  have hil : (i : Int) < (s.n : Int) := by omega
  obtain ⟨i0, hi0, hz0, hz1, hz2⟩ := info_parts info_u8
  have Hz := Lib.hid hz2
  clear ho hz2
  have hcq := (h.cached i hi).1
  cases hc : s.cache i with
  | some x =>
    rw [hc] at hcq
    obtain ⟨A, m, c, hcc, _, hsec⟩ := h.cache i hi
    obtain ⟨d, c', e, hc1, hc2, hbs, _⟩ := hsec x hc
    injection e with e1 e2 e3
    subst e1 e2 e3
    have Hl := Lib.hid (show s.look i = x by simp [DS.look, hc])
    clear hc hsec
    go_enter Try.func15, Try.ntmps15
    go_wp2_with (first
      | (at_builtin
         refine wpList_app _ rfl (.const (.slice none 0 0)) (.tmp 35) _ rfl w.heap.size 5 i0 (.int .u8 0) 1 1 Try.underlying34 hi0 hz0 hz1 Hz.out rfl Nat.one_pos (.slice none 0 0) 0 [] rfl (own_nil _ _ _ _) _ 64 _ _ rfl (fun h => by cases h) hbs (bvs_one _) (by decide) (by decide) (Nat.le_refl _) ?_
         intro v1 w1 hown1 hg1 hat1
         rw [Nat.zero_add, List.nil_append] at hown1
         have hb1 : Below w.heap.size w w1 := grown_none_below hg1
         obtain ⟨A2, c2, rfl, hc2, hm2, ha2⟩ := own_form hown1)
      | fail)
    go_ret2
    rw [Hl.out]
    exact ⟨A2, c2, rfl, bs_own hown1, fun e => by have := (ha2 e).1; omega, hb1⟩
  | none =>
    rw [hc] at hcq
    obtain ⟨v, hcp, _, d, c', rfl, hc1, hc2, hbs, _⟩ := h.plate i hi
    have Hl := Lib.hid (show s.look i = s.plate i by simp [DS.look, hc])
    clear hc
    go_enter Try.func15, Try.ntmps15
    go_wp2_with (first
      | (at_builtin
         refine wpList_app _ rfl (.const (.slice none 0 0)) (.tmp 43) _ rfl w.heap.size 5 i0 (.int .u8 0) 1 1 Try.underlying34 hi0 hz0 hz1 Hz.out rfl Nat.one_pos (.slice none 0 0) 0 [] rfl (own_nil _ _ _ _) _ 64 _ _ rfl (fun h => by cases h) hbs (bvs_one _) (by decide) (by decide) (Nat.le_refl _) ?_
         intro v1 w1 hown1 hg1 hat1
         rw [Nat.zero_add, List.nil_append] at hown1
         have hb1 : Below w.heap.size w w1 := grown_none_below hg1
         obtain ⟨A2, c2, rfl, hc2, hm2, ha2⟩ := own_form hown1)
      | fail)
    go_ret2
    rw [Hl.out]
    exact ⟨A2, c2, rfl, bs_own hown1, fun e => by have := (ha2 e).1; omega, hb1⟩

/-- Read. -/
theorem rread_ (i : Int) (w : World) (h : Rk w G s) : Calls Try.prog 15 #[.pointer (some ⟨G.rb, 0, none⟩), .int .i64 i] w fun e w' => ∃ A n c, e = .returned (.tuple #[.slice A n c, .int .i64 ((s.read i).2 : Int)]) ∧ Bs w' A n (s.read i).1 ∧ (A = none → n = 0) ∧ Below w.heap.size w w' := by
  unfold DS.read
  by_cases hh : s.has i
  · rw [if_neg (fun h => h hh)]
    obtain ⟨k, rfl⟩ := Int.eq_ofNat_of_zero_le hh.1
    cases ho : s.on with
    | true =>
      rw [if_pos rfl]
      refine (rread_on G s k w h (by have := hh.2; omega) ho).mono ?_
      rintro e w' ⟨A, c, rfl, h1, h2, h3⟩
      exact ⟨A, 64, c, rfl, h1, fun e => absurd e h2, h3⟩
    | false =>
      rw [if_neg (by simp)]
      refine (rread_off G s k w h (by have := hh.2; omega) ho).mono ?_
      rintro e w' ⟨rfl, rfl⟩
      exact ⟨none, 0, 0, rfl, Bs.nil, fun _ => rfl, Below.refl _ _⟩
  · rw [if_pos hh]
    refine (rread_bad G s i w h hh).mono ?_
    rintro e w' ⟨rfl, rfl⟩
    exact ⟨none, 0, 0, rfl, Bs.nil, fun _ => rfl, Below.refl _ _⟩
end
end Go.Proofs.Ytbppkdfmiegipaa

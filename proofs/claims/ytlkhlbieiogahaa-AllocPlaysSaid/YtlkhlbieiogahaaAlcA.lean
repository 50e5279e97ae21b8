/- Layer 5: an allocator on the heap, and its small methods: made, check, row, number, New. -/
import Derived.Test.YtlkhlbieiogahaaAlcM
import Derived.LaidEqlPtr
import Derived.Lib.MinMax
namespace Go.Proofs.Ytlkhlbieiogahaa
open Go.RowKit Go.Maps

/-- An allocator that New gave: its counts in block g, itself in g + 1. -/
structure Al (w : World) (g N : Nat) (c : Nat → Int) : Prop where
  row : Blk w g 3 (rowA N (ivF c))
  self : Blk w (g + 1) 50 #[.pointer (some ⟨g + 1, 0, none⟩), .slice (some ⟨g, 0, none⟩) N N]
  most : N ≤ 4096
  least : 0 < N
  rng : Rng N c
theorem Al.lt {w : World} {g N : Nat} {c : Nat → Int} (h : Al w g N c) : g + 1 < w.heap.size := h.self.lt
theorem Al.tn {w w' : World} {g N lo hi : Nat} {c : Nat → Int} (h : Al w g N c) (ht : Tn lo hi w w') (ho : g + 1 < lo ∨ hi ≤ g) : Al w' g N c :=
  ⟨ht.blk h.row (by omega), ht.blk h.self (by omega), h.most, h.least, h.rng⟩
theorem Al.below {w w' : World} {g N : Nat} {c : Nat → Int} (h : Al w g N c) (hb : Below w.heap.size w w') : Al w' g N c := h.tn (Tn.ofBelow (lo := 0) (hi := 0) hb (Nat.le_refl _)) (by omega)
theorem Al.drew {w : World} {g N : Nat} {c : Nat → Int} (h : Al w g N c) : Al w.drew g N c := ⟨h.row, h.self, h.most, h.least, h.rng⟩
theorem Al.drewN {w : World} {g N : Nat} {c : Nat → Int} (h : Al w g N c) (n : Nat) : Al (w.drewN n) g N c := ⟨h.row, h.self, h.most, h.least, h.rng⟩
theorem Al.alloc {w : World} {g N : Nat} {c : Nat → Int} (h : Al w g N c) (o : Obj) : Al (w.alloc o) g N c := h.below ((Below.refl _ _).alloc (Nat.le_refl _) _)
theorem Al.at_ {w : World} {g N : Nat} {c : Nat → Int} (h : Al w g N c) {j : Nat} (hj : j < N) : w.cell? ⟨g, j, none⟩ = some (.int .i64 (c j)) := h.row.cell (rowA_at _ hj)
/-- Its counts are written. -/
theorem Al.rows {w w' : World} {g N : Nat} {c c' : Nat → Int} (h : Al w g N c) (ht : Tn g (g + 1) w w') (hb : Blk w' g 3 (rowA N (ivF c'))) (hr : Rng N c') : Al w' g N c' :=
  ⟨hb, ht.blk h.self (by omega), h.most, h.least, hr⟩

theorem size_alloc : (Try.prog.info? 50).map (·.size) = some 2 := by kernel_rfl
theorem eql_alloc (a : Addr) (w : World) : (binOp .eql 23 (.pointer (some a)) (.pointer (some a))).run Try.prog w = .ok (.bool true) w := by
  obtain ⟨j, hj, _⟩ := Option.map_eq_some_iff.1 size_alloc
  exact run_eql_ptr_same w a Try.underlying23 hj
theorem eql_alloc_none (a : Addr) (w : World) : (binOp .eql 23 (.pointer none) (.pointer (some a))).run Try.prog w = .ok (.bool false) w := by
  have h : ∀ d : Nat, (Op.equalIn (d + 1) 23 (.pointer none) (.pointer (some a))).run Try.prog w = .ok false w := fun d => by
    simp [Op.equalIn, run_underlying Try.underlying23]
  simp only [binOp]
  simp [Op.equal, Op.maxDepth, h 9999]
theorem info_int : (Try.prog.info? 3).map (fun i => (i.zero, i.size, i.bytes)) = some (some (.int .i64 0), 1, 8) := by kernel_rfl
theorem parts_of {P : Program} {t : TypeId} {z : Value} {s b : Nat} (h : (P.info? t).map (fun i => (i.zero, i.size, i.bytes)) = some (some z, s, b)) : ∃ i, P.info? t = some i ∧ i.zero = some z ∧ i.size = s ∧ i.bytes = b := by
  obtain ⟨i, hi, he⟩ := Option.map_eq_some_iff.1 h
  simp only [Prod.mk.injEq] at he
  exact ⟨i, hi, he.1, he.2.1, he.2.2⟩

/-- What row answers. -/
def rowV (r : Option Nat) (n : Nat) : Array Value := match r with
  | none => #[.int .i64 0, .bool false]
  | some i => #[.int .i64 ((i : Int) + 1 - (n : Int)), .bool true]

section
variable (g N : Nat) (c : Nat → Int) (w : World)
set_option maxRecDepth 100000 in
theorem made_ (h : Al w g N c) : Calls Try.prog 26 #[.pointer (some ⟨g + 1, 0, none⟩)] w fun e w' => e = .returned (.bool true) ∧ w = w' := by
  have c0 := h.self.cell (j := 0) (u := .pointer (some ⟨g + 1, 0, none⟩)) rfl
  have q := eql_alloc ⟨g + 1, 0, none⟩ w
  go_enter Try.func26, Try.ntmps26
  go_wp2
  go_ret
  exact ⟨rfl, rfl⟩
set_option maxRecDepth 100000 in
theorem made_nil : Calls Try.prog 26 #[.pointer none] w fun e w' => e = .returned (.bool false) ∧ w = w' := by
  go_enter Try.func26, Try.ntmps26
  go_wp2
  go_ret
  exact ⟨rfl, rfl⟩
set_option maxRecDepth 100000 in
theorem made_zero (b : Nat) (c0 : w.cell? ⟨b, 0, none⟩ = some (.pointer none)) : Calls Try.prog 26 #[.pointer (some ⟨b, 0, none⟩)] w fun e w' => e = .returned (.bool false) ∧ w = w' := by
  have q := eql_alloc_none ⟨b, 0, none⟩ w
  go_enter Try.func26, Try.ntmps26
  go_wp2
  go_ret
  exact ⟨rfl, rfl⟩

set_option maxRecDepth 100000 in
set_option maxHeartbeats 1000000 in
theorem check_ (f n : Int) (h : Al w g N c) (hf : -9223372036854775808 ≤ f ∧ f ≤ 9223372036854775807) (hn : -9223372036854775808 ≤ n ∧ n ≤ 9223372036854775807) :
    Calls Try.prog 29 #[.pointer (some ⟨g + 1, 0, none⟩), .int .i64 f, .int .i64 n] w fun e w' => e = .returned (.int .i64 (rightR N c f n)) ∧ w = w' := by
  have c1 := h.self.cell (j := 1) (u := .slice (some ⟨g, 0, none⟩) N N) rfl
  have hm := h.most
  by_cases h1 : n < 1
  · have hr : rightR N c f n = 1 := by unfold rightR; rw [if_pos (.inl h1)]
    have Hr := Lib.hid hr
    clear hr
    go_enter Try.func29, Try.ntmps29
    go_wp2_with fail
    refine (made_ g N c w h).mono ?_
    rintro e w' ⟨rfl, rfl⟩
    go_wp2
    go_ret
    rw [Hr.out]
    exact ⟨rfl, rfl⟩
  · by_cases h2 : f < 0
    · have hr : rightR N c f n = 1 := by unfold rightR; rw [if_pos (.inr (.inl h2))]
      have Hr := Lib.hid hr
      clear hr
      go_enter Try.func29, Try.ntmps29
      go_wp2_with fail
      refine (made_ g N c w h).mono ?_
      rintro e w' ⟨rfl, rfl⟩
      go_wp2
      go_ret
      rw [Hr.out]
      exact ⟨rfl, rfl⟩
    · by_cases h3 : (N : Int) - f < n
      · have hr : rightR N c f n = 1 := by unfold rightR; rw [if_pos (.inr (.inr h3))]
        have Hr := Lib.hid hr
        clear hr
        go_enter Try.func29, Try.ntmps29
        go_wp2_with fail
        refine (made_ g N c w h).mono ?_
        rintro e w' ⟨rfl, rfl⟩
        go_wp2
        go_ret
        rw [Hr.out]
        exact ⟨rfl, rfl⟩
      · obtain ⟨f, rfl⟩ := Int.eq_ofNat_of_zero_le (show 0 ≤ f by omega)
        obtain ⟨n, rfl⟩ := Int.eq_ofNat_of_zero_le (show 0 ≤ n by omega)
        have hr : rightR N c f n = if anyIn (fun x => x < 1) c f n then 9 else 0 := by unfold rightR; rw [if_neg (by omega)]; rfl
        have Hr := Lib.hid hr
        clear hr
        go_enter Try.func29, Try.ntmps29
        go_wp2_with fail
        refine (made_ g N c w h).mono ?_
        rintro e w' ⟨rfl, rfl⟩
        go_wp2_with fail
        go_loopw [29] (fun iv wr => ∃ i : Nat, i ≤ n ∧ iv = .int .i64 (i : Int) ∧ anyIn (fun x => x < 1) c f i = false ∧ w = wr) (fun iv _ => n - (intOf iv).toNat)
        case atStart => exact ⟨0, Nat.zero_le _, rfl, rfl, rfl⟩
        case round =>
          obtain ⟨i, hi, rfl, ha, rfl⟩ := hrel
          by_cases hlt : i < n
          · have hil : (i : Int) < (n : Int) := by omega
            have hc := h.at_ (j := f + i) (by omega)
            have hw : IntKind.i64.wrap ((f : Int) + (i : Int)) = ((f + i : Nat) : Int) := by rw [IntKind.wrap_i64]; omega
            by_cases hx : c (f + i) < 1
            · have Ha := Lib.hid (anyIn_true (p := fun x => x < 1) (c := c) (lo := f) hlt (by simpa using hx))
              clear ha
              go_wp2
              go_ret
              rw [Hr.out, Ha.out]
              exact ⟨rfl, rfl⟩
            · have Ha := Lib.hid (anyIn_no (p := fun x => x < 1) ha (by simpa using hx))
              clear ha
              go_wp2
              go_roundw
              case rel => exact ⟨i + 1, by omega, by go_num, Ha.out, trivial⟩
              case measure => simp [intOf]; omega
          · have hin : (n : Int) ≤ (i : Int) := by omega
            have he : i = n := by omega
            rw [he] at ha
            have Ha := Lib.hid ha
            clear ha he
            go_wp2
            go_ret
            rw [Hr.out, Ha.out]
            exact ⟨rfl, rfl⟩
set_option maxRecDepth 100000 in
set_option maxHeartbeats 1000000 in
theorem row_ (n : Nat) (h : Al w g N c) (h1 : 1 ≤ n) (h63 : n ≤ 9223372036854775807) :
    Calls Try.prog 27 #[.pointer (some ⟨g + 1, 0, none⟩), .int .i64 (n : Int)] w fun e w' => e = .returned (.tuple (rowV (hit c n N) n)) ∧ w = w' := by
  have c1 := h.self.cell (j := 1) (u := .slice (some ⟨g, 0, none⟩) N N) rfl
  have hm := h.most
  go_enter Try.func27, Try.ntmps27
  go_wp2_with fail
  go_loopw [6, 13] (fun lv iv wr => ∃ i : Nat, i ≤ N ∧ iv = .int .i64 (i : Int) ∧ lv = .int .i64 ((long c i : Nat) : Int) ∧ hit c n i = none ∧ w = wr) (fun _ iv _ => N - (intOf iv).toNat)
  case atStart => exact ⟨0, Nat.zero_le _, rfl, rfl, rfl, rfl⟩
  case round =>
    obtain ⟨i, hi, rfl, rfl, hh, rfl⟩ := hrel
    by_cases hlt : i < N
    · have hil : (i : Int) < (N : Int) := by omega
      have hc := h.at_ hlt
      have hll := long_le c i
      by_cases hx : c i = 0
      · have hl : long c (i + 1) = long c i + 1 := by simp [long, hx]
        rw [hx] at hc
        have hw1 : IntKind.i64.wrap (((long c i : Nat) : Int) + 1) = ((long c i + 1 : Nat) : Int) := by rw [IntKind.wrap_i64]; omega
        by_cases he : long c i + 1 = n
        · have Hh := Lib.hid (hit_now hh (hl.trans he) hlt)
          have hen : (((long c i + 1 : Nat) : Int) == (n : Int)) = true := by simpa using (by omega : ((long c i + 1 : Nat) : Int) = (n : Int))
          have hs : IntKind.i64.wrap (IntKind.i64.wrap ((i : Int) + 1) - (n : Int)) = (i : Int) + 1 - (n : Int) := by simp only [IntKind.wrap_i64]; omega
          clear hh hl he hx
          generalize long c i = L at *
          go_wp2
          go_ret2
          rw [Hh.out]
          exact ⟨rfl, rfl⟩
        · have Hh := Lib.hid (hit_next hh (by rw [hl]; exact he))
          have Hl := Lib.hid hl
          have hen : (((long c i + 1 : Nat) : Int) == (n : Int)) = false := by simpa using (by omega : ¬ ((long c i + 1 : Nat) : Int) = (n : Int))
          clear hh hl he hx
          generalize long c i = L at *
          go_wp2
          go_roundw
          case rel => exact ⟨i + 1, by omega, by go_num, by rw [Hl.out]; rfl, Hh.out, trivial⟩
          case measure => simp [intOf]; omega
      · have hl : long c (i + 1) = 0 := by simp [long, hx]
        have Hh := Lib.hid (hit_next hh (by rw [hl]; omega))
        have Hl := Lib.hid hl
        have hne : (c i == 0) = false := by simpa using hx
        clear hh hl hll
        generalize long c i = L at *
        go_wp2
        go_roundw
        case rel => exact ⟨i + 1, by omega, by go_num, by rw [Hl.out]; rfl, Hh.out, trivial⟩
        case measure => simp [intOf]; omega
    · have hin : (N : Int) ≤ (i : Int) := by omega
      have he : i = N := by omega
      rw [he] at hh
      have Hh := Lib.hid hh
      clear hh he
      generalize long c i = L at *
      go_wp2
      go_ret2
      rw [Hh.out]
      exact ⟨rfl, rfl⟩

set_option maxRecDepth 100000 in
set_option maxHeartbeats 1000000 in
theorem number_ (z : Int) (h : Al w g N c) :
    Calls Try.prog 31 #[.pointer (some ⟨g + 1, 0, none⟩), .int .i64 z] w fun e w' => e = .returned (.int .i64 ((cntIn (· == z) c 0 N : Nat) : Int)) ∧ w = w' := by
  have c1 := h.self.cell (j := 1) (u := .slice (some ⟨g, 0, none⟩) N N) rfl
  have hm := h.most
  go_enter Try.func31, Try.ntmps31
  go_wp2_with fail
  refine (made_ g N c w h).mono ?_
  rintro e w' ⟨rfl, rfl⟩
  go_wp2_with fail
  go_loopw [5, 15] (fun nv iv wr => ∃ i : Nat, i ≤ N ∧ iv = .int .i64 (i : Int) ∧ nv = .int .i64 ((cntIn (· == z) c 0 i : Nat) : Int) ∧ w = wr) (fun _ iv _ => N - (intOf iv).toNat)
  case atStart => exact ⟨0, Nat.zero_le _, rfl, rfl, rfl⟩
  case round =>
    obtain ⟨i, hi, rfl, rfl, rfl⟩ := hrel
    by_cases hlt : i < N
    · have hil : (i : Int) < (N : Int) := by omega
      have hc := h.at_ hlt
      have hle := cntIn_le (· == z) c 0 i
      have hz : (0 : Nat) + i = i := Nat.zero_add i
      cases hx : c i == z with
      | true =>
        have Hn := Lib.hid (cntIn_yes (p := (· == z)) (c := c) (lo := 0) (k := i) (by rw [hz]; exact hx))
        generalize cntIn (· == z) c 0 i = m at *
        go_wp2
        go_roundw
        case rel => exact ⟨i + 1, by omega, by go_num, by rw [Hn.out]; go_num, trivial⟩
        case measure => simp [intOf]; omega
      | false =>
        have Hn := Lib.hid (cntIn_no (p := (· == z)) (c := c) (lo := 0) (k := i) (by rw [hz]; exact hx))
        generalize cntIn (· == z) c 0 i = m at *
        go_wp2
        go_roundw
        case rel => exact ⟨i + 1, by omega, by go_num, by rw [Hn.out], trivial⟩
        case measure => simp [intOf]; omega
    · have hin : (N : Int) ≤ (i : Int) := by omega
      have He := Lib.hid (show i = N by omega)
      go_wp2
      go_ret
      exact ⟨by rw [He.out]; rfl, rfl⟩
end

set_option maxRecDepth 100000 in
theorem new_bad (k : Int) (w : World) (hk : ¬ (1 ≤ k ∧ k ≤ 4096)) : Calls Try.prog 9 #[.int .i64 k] w fun e w' => e = .returned (.tuple #[.pointer none, .int .i64 1]) ∧ w = w' := by
  by_cases h1 : k < 1
  · go_enter Try.func9, Try.ntmps9
    go_wp2
    go_ret2
    exact ⟨rfl, rfl⟩
  · have h2 : 4096 < k := by omega
    clear hk
    go_enter Try.func9, Try.ntmps9
    go_wp2
    go_ret2
    exact ⟨rfl, rfl⟩
set_option maxRecDepth 100000 in
set_option maxHeartbeats 1000000 in
theorem new_ (n : Nat) (w : World) (h1 : 0 < n) (h2 : n ≤ 4096) : Calls Try.prog 9 #[.int .i64 (n : Int)] w fun e w' => ∃ g, e = .returned (.tuple #[.pointer (some ⟨g + 1, 0, none⟩), .int .i64 0]) ∧ w.heap.size = g ∧ Al w' g n (fun _ => 0) ∧ Below w.heap.size w w' := by
  obtain ⟨i0, hi0, hz0, hz1, hz2⟩ := parts_of info_int
  have Hz := Lib.hid hz2
  clear hz2
  go_enter Try.func9, Try.ntmps9
  go_wp2_with (first
    | (at_make
       refine wpList_make_blk _ rfl _ _ 27 rfl 3 i0 _ 1 8 Try.underlying27 hi0 hz0 hz1 Hz.out .i64 .i64 _ _ n rfl rfl rfl rfl (by omega) (by omega) ?_
       intro w1 hk1 hb1 hs1)
    | fail)
  have hB : Below w.heap.size w _ := hb1.alloc hb1.size (.cells #[.pointer (some ⟨w.heap.size + 1, 0, none⟩), .slice (some ⟨w.heap.size, 0, none⟩) n n] 50)
  have hd := Blk.new w1 50 #[.pointer (some ⟨w.heap.size + 1, 0, none⟩), .slice (some ⟨w.heap.size, 0, none⟩) n n] (g := w.heap.size + 1) hs1.symm
  have hp := hk1.alloc (.cells #[.pointer (some ⟨w.heap.size + 1, 0, none⟩), .slice (some ⟨w.heap.size, 0, none⟩) n n] 50)
  rw [Nat.mul_one, show (Value.int IntKind.i64 0).cells = #[.int .i64 0] from rfl, made_rowA] at hp
  go_ret2
  exact ⟨w.heap.size, rfl, rfl, ⟨hp, hd, h2, h1, fun j hj => by omega⟩, hB⟩
end Go.Proofs.Ytlkhlbieiogahaa

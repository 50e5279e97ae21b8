/- Layer 17: decided, awaited, outcome, Phase, State, Step of a coordinator; without. -/
import Derived.Test.YtpjbeodnalgkfaaBarD
set_option linter.all false
namespace Go.Proofs.Ytpjbeodnalgkfaa
open Go.RowKit
namespace Bar
/-! ### rows of orders -/
abbrev odv (o : Odr) : List Value := [.int .i64 o.a, .int .i64 o.k, .int .i64 o.id]
def ods (l : List Odr) : List Value := l.flatMap odv
theorem ods_app (l r : List Odr) : ods (l ++ r) = ods l ++ ods r := by simp [ods]
theorem ods_snoc (l : List Odr) (o : Odr) : ods (l ++ [o]) = ods l ++ odv o := by simp [ods]
theorem ods_cons (o : Odr) (l : List Odr) : ods (o :: l) = odv o ++ ods l := rfl
theorem ods_len : ∀ l : List Odr, (ods l).length = l.length * 3
  | [] => rfl
  | o :: l => by rw [ods_cons, List.length_append, ods_len l, List.length_cons]; simp; omega
theorem ods_one (l : List Odr) : ∀ u ∈ ods l, u.oneCell' = true := by
  intro u hu
  obtain ⟨x, _, hx⟩ := List.mem_flatMap.1 hu
  simp only [List.mem_cons, List.not_mem_nil, or_false] at hx
  rcases hx with rfl | rfl | rfl <;> rfl
theorem odv_one (o : Odr) : ∀ u ∈ odv o, u.oneCell' = true := by
  intro u hu
  simp only [List.mem_cons, List.not_mem_nil, or_false] at hu
  rcases hu with rfl | rfl | rfl <;> rfl
theorem ods_at : ∀ {l : List Odr} {k : Nat} (h : k < l.length) {j : Nat} (_ : j < 3), (ods l)[k * 3 + j]? = (odv l[k])[j]?
  | o :: l, 0, _, j, hj => by
    rw [ods_cons, List.getElem?_append_left (by simp; omega)]
    simp
  | o :: l, k + 1, h, j, hj => by
    rw [ods_cons, List.getElem?_append_right (by simp; omega)]
    have e : (k + 1) * 3 + j - (odv o).length = k * 3 + j := by simp; omega
    rw [e, ods_at (l := l) (by simpa using h) hj]
    simp
theorem ods_take : ∀ (l : List Odr) (k : Nat), (ods l).take (k * 3) = ods (l.take k)
  | [], k => by simp [ods]
  | o :: l, 0 => by simp [ods]
  | o :: l, k + 1 => by
    rw [ods_cons, List.take_succ_cons, ods_cons, show (k + 1) * 3 = k * 3 + 1 + 1 + 1 by omega, ← ods_take l k]; rfl
theorem ods_drop : ∀ (l : List Odr) (k : Nat), (ods l).drop (k * 3) = ods (l.drop k)
  | [], k => by simp [ods]
  | o :: l, 0 => by simp [ods]
  | o :: l, k + 1 => by
    rw [ods_cons, List.drop_succ_cons, show (k + 1) * 3 = k * 3 + 1 + 1 + 1 by omega, ← ods_drop l k]; rfl
/-- The cells of order k. -/
theorem ods_get {w : World} {A : Option Addr} {n : Nat} {l : List Odr} (h : Rd w A 3 n (ods l)) {k : Nat} (hk : k < n) :
    ∃ b o, A = some ⟨b, o, none⟩ ∧ ∃ x, l[k]? = some x ∧ w.cell? ⟨b, o + k * 3, none⟩ = some (.int .i64 x.a) ∧ w.cell? ⟨b, o + k * 3 + 1, none⟩ = some (.int .i64 x.k) ∧ w.cell? ⟨b, o + k * 3 + 2, none⟩ = some (.int .i64 x.id) := by
  have hl : k < l.length := by have := h.1; rw [ods_len] at this; omega
  have g : ∀ j (u : Value), (odv l[k])[j]? = some u → ∃ b o, A = some ⟨b, o, none⟩ ∧ w.cell? ⟨b, o + k * 3 + j, none⟩ = some u := fun j u hu => by
    have hj : j < 3 := by have := (List.getElem?_eq_some_iff.1 hu).1; simpa using this
    obtain ⟨b, o, e, hc⟩ := h.2 (k * 3 + j) u (by rw [ods_at hl hj]; exact hu)
    exact ⟨b, o, e, by rw [Nat.add_assoc]; exact hc⟩
  obtain ⟨b, o, e, h0⟩ := g 0 _ rfl
  have g' : ∀ j (u : Value), (odv l[k])[j]? = some u → w.cell? ⟨b, o + k * 3 + j, none⟩ = some u := fun j u hu => by
    obtain ⟨b', o', e', hc⟩ := g j u hu
    rw [e] at e'
    injection e' with e'
    injection e' with e1 e2
    subst e1 e2
    exact hc
  exact ⟨b, o, e, l[k], List.getElem?_eq_getElem hl, h0, g' 1 _ rfl, g' 2 _ rfl⟩
theorem info_order : (Try.prog.info? 74).map (fun i => (i.zero, i.size, i.bytes)) = some (some (.agg #[.int .i64 0, .int .i64 0, .int .i64 0]), 3, 24) := by kernel_rfl
theorem order_info : ∃ i, Try.prog.info? 74 = some i ∧ i.zero = some (.agg #[.int .i64 0, .int .i64 0, .int .i64 0]) ∧ i.size = 3 ∧ i.bytes = 24 := by
  obtain ⟨i, hi, he⟩ := Option.map_eq_some_iff.1 info_order
  simp only [Prod.mk.injEq] at he
  exact ⟨i, hi, he.1, he.2.1, he.2.2⟩
section
variable (w : World)
set_option maxRecDepth 100000 in
set_option maxHeartbeats 2000000 in
theorem decided_ (b : Nat) (p : Int) (c2 : w.cell? ⟨b, 2, none⟩ = some (.int .i64 p)) : Calls Try.prog 46 #[.pointer (some ⟨b, 0, none⟩)] w fun e w' => e = .returned (.bool (decide (p = 3 ∨ p = 4))) ∧ w = w' := by
  by_cases h3 : p = 3
  · subst h3
    go_enter Try.func46, Try.ntmps46
    go_wp2
    go_ret
    exact ⟨rfl, rfl⟩
  · have t3 : (p == 3) = false := by simpa using h3
    have HE := Lib.hid (show decide (p = 3 ∨ p = 4) = (p == 4) by
      by_cases h4 : p = 4
      · subst h4; decide
      · rw [decide_eq_false (fun q => q.elim h3 h4)]; symm; simpa using h4)
    clear h3
    go_enter Try.func46, Try.ntmps46
    go_wp2
    go_ret
    exact ⟨by rw [HE.out]; first | rfl | simp [t3], rfl⟩
set_option maxRecDepth 100000 in
set_option maxHeartbeats 2000000 in
theorem awaited_ (b : Nat) (p : Int) (c2 : w.cell? ⟨b, 2, none⟩ = some (.int .i64 p)) : Calls Try.prog 47 #[.pointer (some ⟨b, 0, none⟩)] w fun e w' => e = .returned (.int .i64 (if p = 1 then 11 else if p = 2 then 12 else 13)) ∧ w = w' := by
  by_cases h1 : p = 1
  · subst h1
    go_enter Try.func47, Try.ntmps47
    go_wp2
    go_ret
    exact ⟨rfl, rfl⟩
  · have t1 : (p == 1) = false := by simpa using h1
    rw [if_neg h1]
    by_cases h2 : p = 2
    · subst h2
      go_enter Try.func47, Try.ntmps47
      go_wp2
      go_ret
      exact ⟨rfl, rfl⟩
    · have t2 : (p == 2) = false := by simpa using h2
      rw [if_neg h2]
      clear h1 h2
      go_enter Try.func47, Try.ntmps47
      go_wp2
      go_ret
      exact ⟨rfl, rfl⟩
set_option maxRecDepth 100000 in
set_option maxHeartbeats 2000000 in
theorem outcome_ (b : Nat) (p : Int) (c2 : w.cell? ⟨b, 2, none⟩ = some (.int .i64 p)) : Calls Try.prog 50 #[.pointer (some ⟨b, 0, none⟩)] w fun e w' => e = .returned (.int .i64 (if p = 3 then 2 else if p = 4 then 3 else 1)) ∧ w = w' := by
  by_cases h1 : p = 3
  · subst h1
    go_enter Try.func50, Try.ntmps50
    go_wp2
    go_ret
    exact ⟨rfl, rfl⟩
  · have t1 : (p == 3) = false := by simpa using h1
    rw [if_neg h1]
    by_cases h2 : p = 4
    · subst h2
      go_enter Try.func50, Try.ntmps50
      go_wp2
      go_ret
      exact ⟨rfl, rfl⟩
    · have t2 : (p == 4) = false := by simpa using h2
      rw [if_neg h2]
      clear h1 h2
      go_enter Try.func50, Try.ntmps50
      go_wp2
      go_ret
      exact ⟨rfl, rfl⟩
set_option maxRecDepth 100000 in
set_option maxHeartbeats 2000000 in
theorem phase_ (g : Nat) (U : Nat → Prop) (c : Co) (h : Cd w g U c) : Calls Try.prog 32 #[.pointer (some ⟨g + 1, 0, none⟩)] w fun e w' => e = .returned (.tuple #[.int .i64 c.ph, .int .i64 c.id]) ∧ ∃ k, w' = w.drewN k := by
  obtain ⟨⟨A, n, cp, h⟩, _⟩ := h
  obtain ⟨c0, c1, c2, c3, c4, c5⟩ := h.cells
  clear h
  go_enter Try.func32, Try.ntmps32
  go_wp2_with fail
  refine (cgiven_ w (g + 1) c0).mono ?_
  rintro r w' ⟨rfl, rfl⟩
  go_wp2_with fail
  go_quiet (fail)
  go_wp2
  go_ret2
  exact ⟨rfl, _, rfl⟩
set_option maxRecDepth 100000 in
set_option maxHeartbeats 2000000 in
theorem state_ (g : Nat) (U : Nat → Prop) (c : Co) (h : Cd w g U c) (x : Int) (hx : I64 x) : Calls Try.prog 33 #[.pointer (some ⟨g + 1, 0, none⟩), .int .i64 x] w fun e w' => e = .returned (.int .i64 (stC c x)) ∧ w = w' := by
  obtain ⟨⟨A, n, cp, h⟩, hok, _⟩ := h
  obtain ⟨c0, c1, c2, c3, c4, c5⟩ := h.cells
  have hk := h.mp.look hx
  have hph := hok.ph
  by_cases h0 : c.ph = 0
  · have HS := Lib.hid (stC_idle h0 x)
    have t0 : (c.ph == 0) = true := by simpa using h0
    have t0n : (c.ph != 0) = false := by simpa using h0
    clear h hok h0
    go_enter Try.func33, Try.ntmps33
    go_wp2_with fail
    refine (cgiven_ w (g + 1) c0).mono ?_
    rintro r w' ⟨rfl, rfl⟩
    go_wp2
    go_ret
    rw [HS.out]
    exact ⟨rfl, rfl⟩
  · have t0 : (c.ph == 0) = false := by simpa using h0
    have t0n : (c.ph != 0) = true := by simpa using h0
    by_cases h1 : x = c.id
    · have HS := Lib.hid (show stC c x = outC c by rw [h1]; exact stC_run hok (by omega))
      have t1 : (x == c.id) = true := by simpa using h1
      have hO := outcome_ w (g + 1) c.ph c2
      rw [show (if c.ph = 3 then 2 else if c.ph = 4 then 3 else 1) = outC c from rfl] at hO
      clear h hok h0 h1 hk
      go_enter Try.func33, Try.ntmps33
      go_wp2_with fail
      refine (cgiven_ w (g + 1) c0).mono ?_
      rintro r w' ⟨rfl, rfl⟩
      go_wp2_with fail
      refine hO.mono ?_
      rintro r w' ⟨rfl, rfl⟩
      go_wp2
      go_ret
      rw [HS.out]
      exact ⟨rfl, rfl⟩
    · have HS := Lib.hid (stC_other (c := c) h1)
      have t1 : (x == c.id) = false := by simpa using h1
      clear h hok h0 h1
      go_enter Try.func33, Try.ntmps33
      go_wp2_with fail
      refine (cgiven_ w (g + 1) c0).mono ?_
      rintro r w' ⟨rfl, rfl⟩
      go_wp2
      go_ret
      rw [HS.out]
      exact ⟨rfl, rfl⟩
set_option maxRecDepth 100000 in
set_option maxHeartbeats 2000000 in
theorem without_ (A : Option Addr) (n cp : Nat) (l : List Int) (h : Is w A n l) (hn : n ≤ 16) (z : Int) : Calls Try.prog 53 #[.slice A n cp, .int .i64 z] w fun e w' => ∃ v, e = .returned v ∧ w'.ownsRow w.heap.size 3 1 v (l.filter fun y => !(y == z)).length (ivs (l.filter fun y => !(y == z))) ∧ Below w.heap.size w w' := by
  obtain ⟨i0, hi0, hz0, hz1, hz2⟩ := int_info
  have Hz := Lib.hid hz2
  clear hz2
  have HL := Lib.hid h.len
  have HI := Lib.hid h
  clear h
  go_enter Try.func53, Try.ntmps53
  go_wp2
  go_loopw [5, 10] (fun vv iv wr => ∃ i : Nat, i ≤ n ∧ iv = .int .i64 (i : Int) ∧ wr.ownsRow w.heap.size 3 1 vv ((l.take i).filter fun y => !(y == z)).length (ivs ((l.take i).filter fun y => !(y == z))) ∧ Below w.heap.size w wr) (fun _ iv _ => n - (intOf iv).toNat)
  case atStart => exact ⟨0, Nat.zero_le _, rfl, own_nil _ _ _ _, Below.refl _ _⟩
  case round =>
    obtain ⟨i, hi, rfl, hown, hb⟩ := hrel
    by_cases hlt : i < n
    · have hil : (i : Int) < (n : Int) := by omega
      have hi0' : (0 : Int) ≤ (i : Int) := by omega
      have hsz := hb.size
      obtain ⟨b, ox, x, rfl, hx, cx⟩ := (HI.out.below hb).get hlt
      have HT := Lib.hid (show l.take (i + 1) = l.take i ++ [x] by rw [List.take_add_one, hx]; rfl)
      clear hx
      by_cases hxz : x = z
      · have t0 : (x == z) = true := by simpa using hxz
        have HT2 := Lib.hid (show ((l.take (i + 1)).filter fun y => !(y == z)) = (l.take i).filter fun y => !(y == z) by rw [HT.out, List.filter_append]; simp [hxz])
        clear hxz
        go_wp2
        go_roundw
        case rel => exact ⟨i + 1, by omega, by go_num, by rw [HT2.out]; exact hown, hb⟩
        case measure => simp [intOf]; omega
      · have t0 : (x == z) = false := by simpa using hxz
        have HT2 := Lib.hid (show ((l.take (i + 1)).filter fun y => !(y == z)) = ((l.take i).filter fun y => !(y == z)) ++ [x] by rw [HT.out, List.filter_append]; simp [hxz])
        have hml : ((l.take i).filter fun y => !(y == z)).length ≤ i := by
          refine Nat.le_trans (List.length_filter_le _ _) ?_
          rw [List.length_take]; omega
        obtain ⟨K, hK⟩ : ∃ K, ((l.take i).filter fun y => !(y == z)) = K := ⟨_, rfl⟩
        rw [hK] at hown HT2 hml
        obtain ⟨m, hm⟩ : ∃ m, K.length = m := ⟨_, rfl⟩
        rw [hm] at hown hml
        have Hm := Lib.hid hm
        have hrd := (Is.new wr [x] 3 (g := wr.heap.size) rfl (C := #[.int .i64 x]) rfl (n := 1) rfl)
        have z3 : m + 1 ≤ maxLen := by unfold maxLen; omega
        have z4 : (m + 1) * 8 ≤ 140737488355328 := by omega
        clear hxz hm hK
        go_wp2_with (first
          | (at_builtin
             go_must (refine wpList_app _ rfl (.tmp 17) (.tmp 19) _ rfl w.heap.size 3 i0 _ 1 8 Try.underlying25 hi0 hz0 hz1 Hz.out rfl (by omega) _ m _ rfl (own_keep hown ((Below.refl _ _).alloc (Nat.le_refl _) _)) (some ⟨wr.heap.size, 0, none⟩) 1 1 (ivs [x]) rfl (fun h => by cases h) hrd (ivs_one _) z3 z4 (by simp; omega) ?_)
             intro v3 w3 hown3 hg3 hat3
             rw [← ivs_app, ← HT2.out] at hown3
             have hbw : Below w.heap.size w w3 := (hb.alloc hsz _).grown hg3 (by simp; omega) (fun k hk => (hown.lt k hk).1)
             clear hg3 hat3 hown)
          | fail)
        go_roundw
        case rel => exact ⟨i + 1, by omega, by go_num, by rw [show ((l.take (i + 1)).filter fun y => !(y == z)).length = m + 1 by rw [HT2.out, List.length_append, Hm.out]; rfl]; exact hown3, hbw⟩
        case measure => simp [intOf]; omega
    · have he : i = n := by omega
      subst he
      have hil : ¬ (i : Int) < (i : Int) := by omega
      rw [List.take_of_length_le (by rw [← HL.out]; omega)] at hown
      go_wp2
      go_ret
      exact ⟨_, rfl, hown, hb⟩
set_option maxRecDepth 100000 in
set_option maxHeartbeats 2000000 in
theorem cstep_ (g : Nat) (U : Nat → Prop) (c : Co) (h : Cd w g U c) : Calls Try.prog 24 #[.pointer (some ⟨g + 1, 0, none⟩)] w fun e w' => ∃ v, e = .returned v ∧ w'.ownsRow w.heap.size 74 3 v (stepL c).length (ods (stepL c)) ∧ Below w.heap.size w w' := by
  obtain ⟨i0, hi0, hz0, hz1, hz2⟩ := order_info
  have Hz := Lib.hid hz2
  clear hz2
  obtain ⟨⟨A, n, cp, h⟩, hok, hfew⟩ := h
  obtain ⟨c0, c1, c2, c3, c4, c5⟩ := h.cells
  have HI := Lib.hid h.opn.is
  have HL := Lib.hid h.opn.is.len
  have hn16 : n ≤ 16 := by have := h.opn.is.len; have := openI_len c; have := hfew.2; omega
  rw [step_open]
  obtain ⟨L, hL⟩ : ∃ L, openI c = L := ⟨_, rfl⟩
  rw [hL] at HI HL ⊢
  obtain ⟨p, hp⟩ : ∃ p, c.ph = p := ⟨_, rfl⟩
  obtain ⟨x, hx⟩ : ∃ x, c.id = x := ⟨_, rfl⟩
  rw [hp] at c2 ⊢
  rw [hx] at c3 ⊢
  rw [List.length_map, ← HL.out]
  clear h hok hfew hL hp hx c1 c5
  have hgl := cell_lt c0
  simp only at hgl
  go_enter Try.func24, Try.ntmps24
  go_wp2_with fail
  refine (cgiven_ w (g + 1) c0).mono ?_
  rintro r w' ⟨rfl, rfl⟩
  go_wp2
  go_loopw [3, 14] (fun vv iv wr => ∃ i : Nat, i ≤ n ∧ iv = .int .i64 (i : Int) ∧ wr.ownsRow w.heap.size 74 3 vv i (ods ((L.take i).map fun z => (⟨z, p, x⟩ : Odr))) ∧ Below w.heap.size w wr) (fun _ iv _ => n - (intOf iv).toNat)
  case atStart => exact ⟨0, Nat.zero_le _, rfl, own_nil _ _ _ _, Below.refl _ _⟩
  case round =>
    obtain ⟨i, hi, rfl, hown, hb⟩ := hrel
    by_cases hlt : i < n
    · have hil : (i : Int) < (n : Int) := by omega
      have hi0' : (0 : Int) ≤ (i : Int) := by omega
      have hsz := hb.size
      obtain ⟨b, ox, y, rfl, hy, cy⟩ := (HI.out.below hb).get hlt
      have HT := Lib.hid (show ods ((L.take (i + 1)).map fun z => (⟨z, p, x⟩ : Odr)) = ods ((L.take i).map fun z => (⟨z, p, x⟩ : Odr)) ++ odv ⟨y, p, x⟩ by rw [List.take_add_one, hy, List.map_append]; exact ods_snoc _ _)
      have d2 := (hb.cell (cell_lt c2)).trans c2
      have d3 := (hb.cell (cell_lt c3)).trans c3
      have hrd : Rd (wr.drew.alloc (.cells #[.int .i64 y, .int .i64 p, .int .i64 x] 74)) (some ⟨wr.heap.size, 0, none⟩) 3 1 (odv ⟨y, p, x⟩) := Rd.new wr.drew #[.int .i64 y, .int .i64 p, .int .i64 x] 74 (0, 0) (sz := 3) (n := 1) rfl
      have z3 : i + 1 ≤ maxLen := by unfold maxLen; omega
      have z4 : (i + 1) * 24 ≤ 140737488355328 := by omega
      obtain ⟨AO, cO, rfl, hcO, hmO, hnO⟩ := own_form hown
      have hoa := own_keep hown ((below_drew (Below.refl _ _)).alloc (Nat.le_refl _) (.cells #[.int .i64 y, .int .i64 p, .int .i64 x] 74))
      have hbs : w.heap.size ≤ (wr.drew.alloc (.cells #[.int .i64 y, .int .i64 p, .int .i64 x] 74)).heap.size := by simp; omega
      have hbA : Below w.heap.size w (wr.drew.alloc (.cells #[.int .i64 y, .int .i64 p, .int .i64 x] 74)) := (below_drew hb).alloc hsz _
      clear hy
      go_wp2_with fail
      go_region_law (first
        | (refine step_app _ rfl (.tmp 18) (.tmp 29) _ rfl w.heap.size 74 i0 _ 3 24 Try.underlying51 hi0 hz0 hz1 Hz.out rfl (by omega) (.slice AO i cO) i _ rfl hoa (some ⟨wr.heap.size, 0, none⟩) 1 1 (odv ⟨y, p, x⟩) rfl (fun h => by cases h) hrd (odv_one _) z3 z4 hbs ?_
           intro v3 w3 hown3 hg3 hat3
           rw [← HT.out] at hown3
           have hbw : Below w.heap.size w w3 := hbA.grown hg3 hbs (fun k hk => (hown.lt k hk).1)))
      all_goals (
        go_wp2
        go_roundw
        case rel => exact ⟨i + 1, by omega, by go_num, hown3, hbw⟩
        case measure => simp [intOf]; omega)
    · have he : i = n := by omega
      subst he
      have hil : ¬ (i : Int) < (i : Int) := by omega
      rw [List.take_of_length_le (by rw [← HL.out]; omega)] at hown
      go_wp2
      go_ret
      exact ⟨_, rfl, hown, hb⟩
end
end Bar
end Go.Proofs.Ytpjbeodnalgkfaa

/- Layer 9: the document's Ops, Grown; whether pieces are the same. -/
import Derived.Test.YtfdfjnepfgabaaaDelV
import Derived.Laws.StructEq
set_option linter.all false
namespace Go.Proofs.Ytfdfjnepfgabaaa
open Go.RowKit

theorem rd_tva {w : World} {g n : Nat} {y : Nat → Bool} {t : TypeId} (h : Blk w g t (tva n y)) : Rd w (some ⟨g, 0, none⟩) 1 n (Blo.tvs n y) :=
  ⟨by rw [Blo.tvs_length, Nat.mul_one], fun j u hu => ⟨g, 0, rfl, by
    rw [Nat.zero_add]
    refine h.cell ?_
    unfold tva
    rw [List.getElem?_toArray]
    exact hu⟩⟩
theorem tof_delta (a b : List Ext) (gen : Int) (u : List Nat) : Blo.tof (youngF a b gen) (showF b u) = deltaM a b gen u := rfl
theorem delta_low {u : List Nat} (h : ∀ z ∈ u, z < 18446744073709551616) (a b : List Ext) (gen : Int) : ∀ i x, deltaM a b gen u i = some x → x < 18446744073709551616 := fun i x hx => by
  unfold deltaM at hx
  split at hx
  · injection hx with hx
    rw [← hx]
    exact show_low h b i
  · cases hx
theorem pvs_at : ∀ {l : List (Int × Int)} {k : Nat} (h : k < l.length) {j : Nat} (_ : j < 3), (pvs l)[k * 3 + j]? = (pv l[k])[j]?
  | q :: l, 0, _, j, hj => by
    rw [pvs_cons, List.getElem?_append_left (by rw [pv_len]; omega)]
    simp
  | q :: l, k + 1, h, j, hj => by
    rw [pvs_cons, List.getElem?_append_right (by rw [pv_len]; omega), pv_len, show (k + 1) * 3 + j - 3 = k * 3 + j by omega, pvs_at (l := l) (by simpa using h) hj]
    simp
section
variable (w : World)
set_option maxRecDepth 100000 in
set_option maxHeartbeats 4000000 in
theorem rOps_ (A B : Option Addr) (n c m d : Nat) (a b : List Ext) (gen : Int) (U : Option Addr) (k dd : Nat) (u : List Nat) (ha : Es w A n a) (hb : Es w B m b) (hn : n ≤ 9223372036854775807) (hm : m ≤ 9223372036854775807) (hu : Ns w U k u) (hk : k ≤ 9223372036854775807) :
    Calls Try.prog 16 #[.slice A n c, .slice B m d, .int .i64 gen, .slice U k dd] w fun e w' => Blo.AnsG w w' e (yoE a b) (opL a b gen u) := by
  have hno : rightB a = false ∨ rightB b = false → yoE a b = 1 ∧ opL a b gen u = [] := fun h => by
    unfold yoE opL
    rcases h with h | h <;> simp [h]
  go_enter Try.func16, Try.ntmps16
  go_wp2_with fail
  refine (rright_ _ A n c a ha hn).mono ?_
  cases hra : rightB a with
  | false =>
    have HN := Lib.hid (hno (.inl hra))
    clear hno
    rintro e w2 ⟨rfl, hb2⟩
    go_wp2
    go_ret2
    rw [HN.out.1, HN.out.2]
    exact ⟨none, 0, 0, rfl, ⟨⟨[], Blo.Ol.nil _ _, rfl⟩, by simp⟩, hb2⟩
  | true =>
    rintro e w2 ⟨rfl, hb2⟩
    go_wp2_with fail
    refine (rright_ _ B m d b (hb.below hb2) hm).mono ?_
    cases hrb : rightB b with
    | false =>
      have HN := Lib.hid (hno (.inr hrb))
      clear hno
      rintro e w3 ⟨rfl, hb3⟩
      have hB3 := below_step hb2 hb3 (Nat.le_refl _)
      go_wp2
      go_ret2
      rw [HN.out.1, HN.out.2]
      exact ⟨none, 0, 0, rfl, ⟨⟨[], Blo.Ol.nil _ _, rfl⟩, by simp⟩, hB3⟩
    | true =>
      clear hno
      rintro e w3 ⟨rfl, hb3⟩
      have hB3 := below_step hb2 hb3 (Nat.le_refl _)
      have HE := Lib.hid (show yoE a b = 0 by unfold yoE; rw [hra, hrb]; rfl)
      have HL := Lib.hid (show opL a b gen u = shortS (deltaM a b gen u) 1024 by unfold opL; rw [hra, hrb]; rfl)
      have hvB : vwB b 1024 = true := by
        have h1 := endL_le (right_is.1 hrb).1
        simp [vwB, hrb]
        exact h1
      go_wp2_with fail
      refine (rview_ _ B m d b 1024 U k dd u (hb.below hB3) hm (by unfold I64; omega) (hu.below hB3) hk).mono ?_
      rw [show vwE b 1024 = 0 by unfold vwE; rw [hvB]; rfl, show vwL b 1024 u = Blo.vol 1024 (showF b u) by unfold vwL; rw [hvB]; rfl]
      rintro e w4 ⟨V, vn, vc, rfl, hV, hb4⟩
      have hvn : vn = 1024 := by have := hV.own.1; rw [nvs_length, Blo.vol_length] at this; omega
      subst hvn
      have hB4 := below_step hB3 hb4 (Nat.le_refl _)
      go_wp2_with fail
      refine (ryoung_ _ A B n c m d a b gen (ha.below hB4) (hb.below hB4) hra hrb).mono ?_
      rintro e w5 ⟨gy, rfl, hk5, hg5, hb5⟩
      have hB5 := below_step hB4 hb5 (Nat.le_refl _)
      have hV5 := hV.ns.below hb5
      go_wp2_with fail
      refine (Blo.short_ _ V (some ⟨gy, 0, none⟩) 1024 vc 1024 (showF b u) (youngF a b gen) (Nat.le_refl _) hV5 (rd_tva hk5)).mono ?_
      rw [tof_delta]
      rintro e w6 ⟨v6, n6, L6, rfl, hO6, hL6, hb6⟩
      have HL6 := Lib.hid hL6
      have Hdl := Lib.hid (delta_low hu.2 a b gen)
      have hB6 := below_step hB5 hb6 (Nat.le_refl _)
      obtain ⟨A6, c6, rfl, -, -, -⟩ := own_form hO6.row
      have hO7 := hO6.mono hB5.size
      clear hO6 hL6 hb6 hb5 hb4 hb3 hb2
      go_wp2
      go_ret2
      rw [HE.out, HL.out]
      exact ⟨A6, n6, c6, rfl, ⟨⟨L6, hO7, HL6.out⟩, Blo.short_sml Hdl.out (Nat.le_refl _)⟩, hB6⟩
set_option maxRecDepth 100000 in
set_option maxHeartbeats 4000000 in
theorem rGrown_ (A B : Option Addr) (n c m d : Nat) (a b : List Ext) (gen : Int) (ha : Es w A n a) (hb : Es w B m b) (hn : n ≤ 9223372036854775807) (hm : m ≤ 9223372036854775807) :
    Calls Try.prog 18 #[.slice A n c, .slice B m d, .int .i64 gen] w fun e w' => e = .returned (.bool (grB a b gen)) ∧ Below w.heap.size w w' := by
  have hno : rightB a = false ∨ rightB b = false → grB a b gen = false := fun h => by
    unfold grB
    rcases h with h | h <;> simp [h]
  go_enter Try.func18, Try.ntmps18
  go_wp2_with fail
  refine (rright_ _ A n c a ha hn).mono ?_
  cases hra : rightB a with
  | false =>
    have HN := Lib.hid (hno (.inl hra))
    clear hno
    rintro e w2 ⟨rfl, hb2⟩
    go_wp2
    go_ret
    rw [HN.out]
    exact ⟨rfl, hb2⟩
  | true =>
    rintro e w2 ⟨rfl, hb2⟩
    go_wp2_with fail
    refine (rright_ _ B m d b (hb.below hb2) hm).mono ?_
    cases hrb : rightB b with
    | false =>
      have HN := Lib.hid (hno (.inr hrb))
      clear hno
      rintro e w3 ⟨rfl, hb3⟩
      have hB3 := below_step hb2 hb3 (Nat.le_refl _)
      go_wp2
      go_ret
      rw [HN.out]
      exact ⟨rfl, hB3⟩
    | true =>
      clear hno
      rintro e w3 ⟨rfl, hb3⟩
      have hB3 := below_step hb2 hb3 (Nat.le_refl _)
      have Hgr := Lib.hid (show grB a b gen = true ↔ grownL a b gen from ⟨fun h => (grB_iff.1 h).2.2, fun h => grB_iff.2 ⟨hra, hrb, h⟩⟩)
      go_wp2_with fail
      refine (rall_ _ A n c a (ha.below hB3) hra).mono ?_
      rintro e w4 ⟨rfl, hk4, hb4⟩
      have hB4 := below_step hB3 hb4 (Nat.le_refl _)
      go_wp2_with fail
      refine (rall_ _ B m d b (hb.below hB4) hrb).mono ?_
      rintro e w5 ⟨rfl, hk5, hb5⟩
      have hka := hk4.keep hb5
      have hB5 := below_step hB4 hb5 (Nat.le_refl _)
      generalize w3.heap.size = ga at *
      generalize w4.heap.size = gb at *
      clear hb2 hb3 hb4 hb5 hB3 hB4 hk4
      go_wp2_with fail
      go_loopw [9] (fun iv wr => ∃ i : Nat, i ≤ 1024 ∧ iv = .int .i64 (i : Int) ∧ Blk wr ga 73 (raN 1024 (atL a)) ∧ Blk wr gb 73 (raN 1024 (atL b)) ∧ Below w.heap.size w wr ∧ Hid (∀ j : Nat, j < i → grewB gen (atL a (j : Int)) (atL b (j : Int)) = true)) (fun iv _ => 1024 - (intOf iv).toNat)
      case atStart => exact ⟨0, Nat.zero_le _, rfl, hka, hk5, hB5, Lib.hid fun j hj => by omega⟩
      case round =>
        obtain ⟨i, hi, rfl, hka, hkb, hbb, hall⟩ := hrel
        clear hk5 hB5
        by_cases hlt : i < 1024
        · have hiI : (i : Int) < 1024 := by omega
          have hi0 : (0 : Int) ≤ (i : Int) := by omega
          have hgood : grewB gen (atL a (i : Int)) (atL b (i : Int)) = true → Hid (∀ j : Nat, j < i + 1 → grewB gen (atL a (j : Int)) (atL b (j : Int)) = true) := fun q => Lib.hid fun j hj => by
            by_cases e : j = i
            · subst e; exact q
            · exact hall.out j (by omega)
          have hbad : grewB gen (atL a (i : Int)) (atL b (i : Int)) = false → grB a b gen = false := fun q => by
            cases hg : grB a b gen with
            | false => rfl
            | true => have := Hgr.out.1 hg i hlt; rw [q] at this; cases this
          clear hall
          cases hb2 : atL b (i : Int) with
          | none =>
            obtain ⟨d0, d1, d2⟩ := ra_cells hkb hlt (x := false) (p := 0) (r := 0) (by rw [hb2]; rfl)
            obtain ⟨x, p2, r2, hab⟩ : ∃ x p2 r2, ab (atL a (i : Int)) = [.bool x, .int .i64 p2, .int .i64 r2] := by
              cases atL a (i : Int) with
              | none => exact ⟨false, 0, 0, rfl⟩
              | some v => exact ⟨true, v.1, v.2, rfl⟩
            obtain ⟨c0, c1, c2⟩ := ra_cells hka hlt hab
            have Hg := hgood (by rw [hb2]; cases atL a (i : Int) <;> rfl)
            clear hgood hbad hab hb2
            go_wp2_with fail
            go_quiet (fail)
            go_wp2
            go_roundw
            case rel => exact ⟨i + 1, by omega, by go_num, hka, hkb, below_drewN hbb nq, Hg⟩
            case measure => simp [intOf]; omega
          | some v =>
            obtain ⟨p, r⟩ := v
            obtain ⟨d0, d1, d2⟩ := ra_cells hkb hlt (x := true) (p := p) (r := r) (by rw [hb2]; rfl)
            by_cases hrg : r ≤ gen
            · have hd : decide (r ≤ gen) = true := decide_eq_true hrg
              cases ha2 : atL a (i : Int) with
              | none =>
                obtain ⟨c0, c1, c2⟩ := ra_cells hka hlt (x := false) (p := 0) (r := 0) (by rw [ha2]; rfl)
                have Hg := Lib.hid (hbad (by rw [ha2, hb2]; simp [grewB]; omega))
                clear hgood hbad hb2
                go_wp2_with fail
                go_quiet (fail)
                go_wp2
                go_ret
                rw [Hg.out]
                exact ⟨rfl, below_drewN hbb nq⟩
              | some v =>
                obtain ⟨q, s⟩ := v
                obtain ⟨c0, c1, c2⟩ := ra_cells hka hlt (x := true) (p := q) (r := s) (by rw [ha2]; rfl)
                by_cases hqp : q = p
                · have hne : (q != p) = false := by simp [hqp]
                  have Hg := hgood (by rw [ha2, hb2]; simp [grewB]; omega)
                  clear hgood hbad hb2
                  go_wp2_with fail
                  go_quiet (fail)
                  go_wp2
                  go_roundw
                  case rel => exact ⟨i + 1, by omega, by go_num, hka, hkb, below_drewN hbb nq, Hg⟩
                  case measure => simp [intOf]; omega
                · have hne : (q != p) = true := by simp [hqp]
                  have Hg := Lib.hid (hbad (by rw [ha2, hb2]; simp [grewB]; omega))
                  clear hgood hbad hb2
                  go_wp2_with fail
                  go_quiet (fail)
                  go_wp2
                  go_ret
                  rw [Hg.out]
                  exact ⟨rfl, below_drewN hbb nq⟩
            · have hd : decide (r ≤ gen) = false := decide_eq_false hrg
              have hlt3 : gen < r := by omega
              obtain ⟨x, p2, r2, hab⟩ : ∃ x p2 r2, ab (atL a (i : Int)) = [.bool x, .int .i64 p2, .int .i64 r2] := by
                cases atL a (i : Int) with
                | none => exact ⟨false, 0, 0, rfl⟩
                | some v => exact ⟨true, v.1, v.2, rfl⟩
              obtain ⟨c0, c1, c2⟩ := ra_cells hka hlt hab
              have Hg := hgood (by rw [hb2]; cases atL a (i : Int) <;> simp [grewB, hlt3])
              clear hgood hbad hab hb2
              go_wp2_with fail
              go_quiet (fail)
              go_wp2
              go_roundw
              case rel => exact ⟨i + 1, by omega, by go_num, hka, hkb, below_drewN hbb nq, Hg⟩
              case measure => simp [intOf]; omega
        · have hge : (1024 : Int) ≤ (i : Int) := by omega
          have Hg := Lib.hid (show grB a b gen = true from Hgr.out.2 fun j hj => hall.out j (by omega))
          clear hall
          go_wp2
          go_ret
          rw [Hg.out]
          exact ⟨rfl, hbb⟩
set_option maxRecDepth 100000 in
theorem neq_piece (a b c : Int) (w : World) : (binOp .neq 50 (.agg #[.int .i64 a, .int .i64 b, .int .i64 c]) (.agg #[.int .i64 a, .int .i64 b, .int .i64 c])).run Try.prog w = .ok (.bool false) w := by
  have hu := Try.underlying50
  obtain ⟨fs, hf⟩ : ∃ fs, Try.prog.fieldsOf 50 = fs := ⟨_, rfl⟩
  have hf' := hf
  unfold Program.fieldsOf at hf'
  rw [hu] at hf'
  simp only at hf'
  subst hf'
  have hi : Try.prog.underlying 3 = some (.int .i64) := Try.underlying3
  have he : (Op.equalIn 10000 50 (.agg #[.int .i64 a, .int .i64 b, .int .i64 c]) (.agg #[.int .i64 a, .int .i64 b, .int .i64 c])).run Try.prog w = .ok true w := by
    rw [run_equalIn_struct w 9999 50 _ _ (by rw [hf, hu]) (by kernel_rfl), hf]
    have q : ∀ z, (Op.equalIn 9999 3 (.int .i64 z) (.int .i64 z)).run Try.prog w = .ok true w := fun z => by
      rw [run_equalIn_int w 9998 3 .i64 .i64 z z hi]; simp
    simp [Op.eqFields, go_sem, q]
  simp only [binOp]
  simp [Op.equal, Op.maxDepth, he]
/-- Pieces read in memory. -/
theorem ps_at {w : World} {A B : Option Addr} {n m : Nat} {l : List (Int × Int)} (ha : Rd w A 3 n (pvs l)) (hb : Rd w B 3 m (pvs l)) {k : Nat} (hk : k < n) :
    ∃ p o q r x y, A = some ⟨p, o, none⟩ ∧ B = some ⟨q, r, none⟩ ∧ w.cell? ⟨p, o + k * 3, none⟩ = some (.int .i64 x) ∧ w.cell? ⟨p, o + k * 3 + 1, none⟩ = some (.int .i64 y) ∧ w.cell? ⟨p, o + k * 3 + 2, none⟩ = some (.int .i64 0) ∧
      w.cell? ⟨q, r + k * 3, none⟩ = some (.int .i64 x) ∧ w.cell? ⟨q, r + k * 3 + 1, none⟩ = some (.int .i64 y) ∧ w.cell? ⟨q, r + k * 3 + 2, none⟩ = some (.int .i64 0) := by
  have hl : k < l.length := by have := ha.1; rw [pvs_len] at this; omega
  have key : ∀ (A : Option Addr) (n : Nat), Rd w A 3 n (pvs l) → ∃ b o, A = some ⟨b, o, none⟩ ∧ w.cell? ⟨b, o + k * 3, none⟩ = some (.int .i64 l[k].1) ∧ w.cell? ⟨b, o + k * 3 + 1, none⟩ = some (.int .i64 l[k].2) ∧ w.cell? ⟨b, o + k * 3 + 2, none⟩ = some (.int .i64 0) := fun A n h => by
    have g : ∀ j (u : Value), (pv l[k])[j]? = some u → ∃ b o, A = some ⟨b, o, none⟩ ∧ w.cell? ⟨b, o + k * 3 + j, none⟩ = some u := fun j u hu => by
      have hj : j < 3 := by have := (List.getElem?_eq_some_iff.1 hu).1; simpa [pv] using this
      obtain ⟨b, o, e, hc⟩ := h.2 (k * 3 + j) u (by rw [pvs_at hl hj]; exact hu)
      exact ⟨b, o, e, by rw [Nat.add_assoc]; exact hc⟩
    obtain ⟨b, o, e, c0⟩ := g 0 _ rfl
    have g' : ∀ j (u : Value), (pv l[k])[j]? = some u → w.cell? ⟨b, o + k * 3 + j, none⟩ = some u := fun j u hu => by
      obtain ⟨b2, o2, e', hc⟩ := g j u hu
      rw [e] at e'
      injection e' with e'
      injection e' with e1 e2
      subst e1 e2
      exact hc
    exact ⟨b, o, e, c0, g' 1 _ rfl, g' 2 _ rfl⟩
  obtain ⟨p, o, e, c0, c1, c2⟩ := key A n ha
  obtain ⟨q, r, e', d0, d1, d2⟩ := key B m hb
  exact ⟨p, o, q, r, _, _, e, e', c0, c1, c2, d0, d1, d2⟩
set_option maxRecDepth 100000 in
set_option maxHeartbeats 2000000 in
theorem rsameP_ (A B : Option Addr) (n m c d : Nat) (l : List (Int × Int)) (ha : Rd w A 3 n (pvs l)) (hb : Rd w B 3 m (pvs l)) (hn : n ≤ 9223372036854775807) :
    Calls Try.prog 19 #[.slice A n c, .slice B m d] w fun e w' => ∃ k, e = .returned (.bool true) ∧ w' = w.drewN k := by
  have hnm : m = n := by
    have h1 := ha.1
    have h2 := hb.1
    omega
  subst hnm
  go_enter Try.func19, Try.ntmps19
  go_wp2_with fail
  go_loopw [5] (fun iv wr => ∃ (k j : Nat), k ≤ m ∧ iv = .int .i64 (k : Int) ∧ wr = w.drewN j) (fun iv _ => m - (intOf iv).toNat)
  case atStart => exact ⟨0, 0, Nat.zero_le _, rfl, rfl⟩
  case round =>
    obtain ⟨k, j, hk, rfl, rfl⟩ := hrel
    by_cases hlt : k < m
    · have hil : (k : Int) < (m : Int) := by omega
      have hk0 : (0 : Int) ≤ (k : Int) := by omega
      obtain ⟨p, o, q, r, x, y, rfl, rfl, c0, c1, c2, d0, d1, d2⟩ := ps_at ha hb hlt
      clear ha hb
      have hq := fun W => neq_piece x y 0 W
      go_wp2_with fail
      go_quiet (fail)
      go_wp2
      go_roundw
      case rel => exact ⟨k + 1, _, by omega, by go_num, rfl⟩
      case measure => simp [intOf]; omega
    · have hin : (m : Int) ≤ (k : Int) := by omega
      go_wp2
      go_ret
      exact ⟨j, rfl, rfl⟩
end
end Go.Proofs.Ytfdfjnepfgabaaa

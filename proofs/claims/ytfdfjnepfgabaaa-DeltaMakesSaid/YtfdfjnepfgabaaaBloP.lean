/- Layer 8: the document's Short. -/
import Derived.Test.YtfdfjnepfgabaaaBloO
import Derived.Deep.RegionLaw
set_option linter.all false
namespace Go.Proofs.Ytfdfjnepfgabaaa
open Go.RowKit
namespace Blo

theorem step_skip {m : Nat → Option Nat} {k : Nat} (hm : m k = none) : shortS m (k + 1) = shortS m k := by
  show stepS (shortS m k) (prevOf m k) k (m k) = _
  rw [hm]; rfl
theorem step_trim {m : Nat → Option Nat} {k : Nat} (hm : m k = some 0) (hp : prevOf m k ≠ some 0) : shortS m (k + 1) = shortS m k ++ [⟨2, k, 1, []⟩] := by
  show stepS (shortS m k) (prevOf m k) k (m k) = _
  rw [hm]
  cases hl : (shortS m k).getLast? with
  | none => simp only [stepS, hl]
  | some y => simp only [stepS, hl, if_neg hp]
theorem step_trim2 {m : Nat → Option Nat} {k : Nat} (hm : m k = some 0) (hp : prevOf m k = some 0) : ∃ p y, shortS m k = p ++ [y] ∧ shortS m (k + 1) = p ++ [{ y with len := y.len + 1 }] ∧ -2000 ≤ y.len ∧ (k ≤ 1024 → y.len ≤ 1024) := by
  cases k with
  | zero => cases hp
  | succ j =>
    obtain ⟨p, y, e, h1, h2⟩ := (short_inv m (j + 1)).last j 0 rfl hp
    rw [if_pos rfl] at h2
    have hok := (short_inv m (j + 1)).ok y (by rw [e]; simp)
    have hc : y.cnt = y.len := by unfold BOp.cnt; rw [if_neg (by omega), if_pos h2]
    have h3 := hok.some
    have h4 := hok.low
    have h5 := hok.high
    refine ⟨p, y, e, ?_, by omega, fun h => by omega⟩
    show stepS (shortS m (j + 1)) (prevOf m (j + 1)) (j + 1) (m (j + 1)) = _
    rw [hm, e]
    unfold stepS
    simp [hp]
theorem step_write {m : Nat → Option Nat} {k x : Nat} (hx : x ≠ 0) (hm : m k = some x) (hp : prevOf m k = none ∨ prevOf m k = some 0) : shortS m (k + 1) = shortS m k ++ [⟨1, k, 0, [x]⟩] := by
  show stepS (shortS m k) (prevOf m k) k (m k) = _
  rw [hm]
  obtain ⟨z, rfl⟩ : ∃ z, x = z + 1 := ⟨x - 1, by omega⟩
  have hn : ¬ ((prevOf m k).isSome && prevOf m k != some 0) = true := by rcases hp with hp | hp <;> simp [hp]
  cases hl : (shortS m k).getLast? with
  | none => simp only [stepS, hl]
  | some y => simp only [stepS, hl, if_neg (show ¬ (((prevOf m k).isSome && prevOf m k != some 0) = true ∧ y.data.length < 64) from fun e => hn e.1)]
theorem step_write2 {m : Nat → Option Nat} {k x z : Nat} (hx : x ≠ 0) (hm : m k = some x) (hz : z ≠ 0) (hp : prevOf m k = some z) : ∃ p y, shortS m k = p ++ [y] ∧ y.kind = 1 ∧ y.len = 0 ∧ 0 < y.data.length ∧ y.data.length ≤ 64 ∧ (y.data.length < 64 → shortS m (k + 1) = p ++ [{ y with data := y.data ++ [x] }]) ∧ (¬ y.data.length < 64 → shortS m (k + 1) = shortS m k ++ [⟨1, k, 0, [x]⟩]) := by
  cases k with
  | zero => cases hp
  | succ j =>
    obtain ⟨p, y, e, h1, h2⟩ := (short_inv m (j + 1)).last j z rfl hp
    rw [if_neg hz] at h2
    have hok := (short_inv m (j + 1)).ok y (by rw [e]; simp)
    have hf : y.kind = 1 ∧ y.len = 0 ∧ y.data.length ≤ 64 := by
      rcases hok.form with q | q
      · exact q
      · omega
    have hc : y.cnt = (y.data.length : Int) := by unfold BOp.cnt; rw [if_pos h2]
    have h3 := hok.some
    obtain ⟨u, rfl⟩ : ∃ u, x = u + 1 := ⟨x - 1, by omega⟩
    obtain ⟨t, rfl⟩ : ∃ t, z = t + 1 := ⟨z - 1, by omega⟩
    have hS : shortS m (j + 1 + 1) = stepS (shortS m (j + 1)) (prevOf m (j + 1)) (j + 1) (m (j + 1)) := rfl
    refine ⟨p, y, e, h2, hf.2.1, by omega, hf.2.2, fun h => ?_, fun h => ?_⟩
    · rw [hS, hm, hp, e]
      unfold stepS
      simp [h]
    · rw [hS, hm, hp, e]
      unfold stepS
      simp [h]
theorem tof_yes {tc : Nat → Bool} {f : Int → Nat} {i x : Nat} (h : tc i = true) (hx : f (i : Int) = x) : tof tc f i = some x := by unfold tof; rw [h, if_pos rfl, hx]
theorem tof_no {tc : Nat → Bool} {f : Int → Nat} {i : Nat} (h : tc i = false) : tof tc f i = none := by unfold tof; rw [h]; rfl
theorem ov_one' (o : BOp) (X : Option Addr) (m c : Nat) : ∀ u ∈ ov4 (o, .slice X m c), u.oneCell' = true := ov_one o X m c
theorem vol_cell {w : World} {A : Option Addr} {n : Nat} {f : Int → Nat} (h : Ns w A n (vol n f)) {i : Nat} (hi : i < n) : ∃ b o, A = some ⟨b, o, none⟩ ∧ w.cell? ⟨b, o + i, none⟩ = some (.int .u64 ((f (i : Int) : Nat) : Int)) ∧ f (i : Int) < 18446744073709551616 := by
  obtain ⟨b, o, e, hx, hc, hxl⟩ := h.at_ hi
  have hxe : (vol n f)[i] = f (i : Int) := by
    have := vol_at f hi
    rw [List.getElem?_eq_getElem hx] at this
    injection this
  rw [hxe] at hc hxl
  exact ⟨b, o, e, hc, hxl⟩
theorem tvs_cell {w : World} {T : Option Addr} {n : Nat} {tc : Nat → Bool} (h : Rd w T 1 n (tvs n tc)) {i : Nat} (hi : i < n) : ∃ b o, T = some ⟨b, o, none⟩ ∧ w.cell? ⟨b, o + i, none⟩ = some (.bool (tc i)) := by
  obtain ⟨b, o, e, hx, hc⟩ := h.at_ hi
  have hxe : (tvs n tc)[i] = .bool (tc i) := by
    have := tvs_at tc hi
    rw [List.getElem?_eq_getElem hx] at this
    injection this
  rw [hxe] at hc
  exact ⟨b, o, e, hc⟩
theorem below_drew0 (w : World) : Below w.heap.size w w.drew := ⟨rfl, rfl, rfl, Nat.le_refl _, fun _ _ => rfl⟩
theorem frozen_below {B : Nat} {w w' : World} (hb : Below B w w') {g j : Nat} (hg : g < B) (h : w.frozen? ⟨g, j, none⟩ = false) : w'.frozen? ⟨g, j, none⟩ = false := by
  have := hb.block g hg
  unfold World.frozen? at h ⊢
  simp only [this]
  exact h
theorem rd_new1 (w : World) (u : Value) (t : TypeId) : Rd (w.alloc (.cells #[u] t)) (some ⟨w.heap.size, 0, none⟩) 1 1 [u] := Rd.new w #[u] t (0, 0) rfl
theorem one_u64 {x : Int} : ∀ u ∈ [Value.int .u64 x], u.oneCell' = true := by simp [Value.oneCell']
/-- What stands behind i blocks: a list of the call's own, told shortly. -/
def Sofar (w wr : World) (v : Value) (n : Nat) (L : List (BOp × Value)) (l : List BOp) : Prop := Ol wr w.heap.size v n L ∧ L.map Prod.fst = l ∧ Below w.heap.size w wr
theorem sofar_push {w wr w3 : World} {v v3 : Value} {n : Nat} {L : List (BOp × Value)} {l : List BOp} (h : Sofar w wr v n L l) {o : BOp} {d : Value} {w2 : World} (hb : Below wr.heap.size wr w2) (hd : w2.ownsRow w.heap.size 51 1 d o.data.length (nvs o.data)) (hnew : ∀ k, d.ownBlock = some k → wr.heap.size ≤ k) (hr : w3.ownsRow w.heap.size 76 4 v3 (n + 1) (ovs L ++ ov4 (o, d))) (hg : w2.grownBy w3 v.ownBlock) : Sofar w w3 v3 (n + 1) (L ++ [(o, d)]) (l ++ [o]) := by
  have hO2 := h.1.keep hb
  have hB2 := below_step h.2.2 hb (Nat.le_refl _)
  refine ⟨ol_push hO2 hg hr hd (fun p hp g hg e => ?_), by rw [List.map_append, h.2.1]; rfl, hB2.grown hg hB2.size (own_from hO2.row)⟩
  have h1 := ((h.1.data p hp).lt g hg).2
  have h2 := hnew g e
  omega
theorem map_snoc {L : List (BOp × Value)} {p : List BOp} {y : BOp} (h : L.map Prod.fst = p ++ [y]) : ∃ P dy, L = P ++ [(y, dy)] ∧ P.map Prod.fst = p := by
  rcases snoc_cases L with rfl | ⟨P, ⟨z, dy⟩, rfl⟩
  · simp at h
  · rw [List.map_append] at h
    simp only [List.map_cons, List.map_nil] at h
    have := List.append_inj' h rfl
    simp only [List.cons.injEq, and_true] at this
    exact ⟨P, dy, by rw [this.2], this.1⟩
section
variable (w : World)
set_option maxRecDepth 100000 in
set_option maxHeartbeats 8000000 in
theorem short_ (A T : Option Addr) (n c tcap : Nat) (f : Int → Nat) (tc : Nat → Bool) (hn : n ≤ 1024) (hv : Ns w A n (vol n f)) (ht : Rd w T 1 n (tvs n tc)) :
    Calls Try.prog 35 #[.slice T n tcap, .slice A n c] w fun e w' => Told w w' w.heap.size e (shortS (tof tc f) n) := by
  obtain ⟨i0, hi0, hz0, hz1, hz2⟩ := op_info
  have Hz := Lib.hid hz2
  obtain ⟨i1, hi1, hy0, hy1, hy2⟩ := u64_info
  have Hy := Lib.hid hy2
  clear hz2 hy2
  go_enter Try.func35, Try.ntmps35
  go_wp2_with fail
  go_loopw [5, 6, 7, 8] (fun vv iv _ _ wr => ∃ (i nn : Nat) (L : List (BOp × Value)), i ≤ n ∧ iv = .int .i64 (i : Int) ∧ nn ≤ i ∧ Sofar w wr vv nn L (shortS (tof tc f) i)) (fun _ iv _ _ _ => n - (intOf iv).toNat)
  case atStart => exact ⟨0, 0, [], Nat.zero_le _, rfl, Nat.le_refl _, Ol.nil _ _, rfl, Below.refl _ _⟩
  case round =>
    obtain ⟨i, nn, L, hi, rfl, hnn, hS⟩ := hrel
    obtain ⟨Ar, cr, rfl, hcr, hcrm, -⟩ := own_form hS.1.row
    have hb := hS.2.2
    have hbz := hb.size
    by_cases hlt : i < n
    · have hil : (i : Int) < (n : Int) := by omega
      have hi0' : (0 : Int) ≤ (i : Int) := by omega
      obtain ⟨b, o, rfl, cv, hxl⟩ := vol_cell (hv.below hb) hlt
      obtain ⟨b', o', rfl, ct⟩ := tvs_cell (ht.below hb) hlt
      cases htc : tc i with
      | false =>
        rw [htc] at ct
        have HS := Lib.hid (step_skip (tof_no (f := f) htc))
        clear htc
        go_wp2
        go_roundw
        case rel => exact ⟨i + 1, nn, L, by omega, by go_num, by omega, by rw [HS.out]; exact hS⟩
        case measure => simp [intOf]; omega
      | true =>
        rw [htc] at ct
        have Hm := Lib.hid (tof_yes (f := f) htc rfl)
        have hpv : ∀ p, i = p + 1 → prevOf (tof tc f) i = tof tc f p := fun p hp => by subst hp; rfl
        have Hpv := Lib.hid hpv
        have hp0 : i = 0 → prevOf (tof tc f) i = none := fun hp => by subst hp; rfl
        have Hp0 := Lib.hid hp0
        have hcv := hv
        have hct := ht
        generalize hx : f (i : Int) = x at *
        clear hx htc hpv hp0 hv ht
        have hw2 : IntKind.i64.wrap (0 : Int) = 0 := rfl
        rcases Nat.eq_zero_or_pos i with h0 | h0
        · have Hpp := Lib.hid (Hp0.out h0)
          have hg : decide ((0 : Int) < (i : Int)) = false := by simp; omega
          have hg2 : decide (0 < i) = false := by simp; omega
          have hg3 : ¬ 0 < i := by omega
          clear h0
          by_cases hx0 : x = 0
          · have hxb : ((x : Int) == 0) = true := by simp; omega
            have HR := Lib.hid (step_trim (m := tof tc f) (k := i) (by rw [← hx0]; exact Hm.out) (by rw [Hpp.out]; simp))
            clear hx0
            go_wp2_with fail
            go_quiet (fail)
            have hSd : Sofar w (wr.drewN nq) (.slice Ar nn cr) nn L (shortS (tof tc f) i) := ⟨hS.1.keep (below_drewN (Below.refl _ _) nq), hS.2.1, below_drewN hS.2.2 nq⟩
            have cvd : (wr.drewN nq).cell? ⟨b, o + i, none⟩ = some (.int .u64 (x : Int)) := cv
            have hbzd : w.heap.size ≤ (wr.drewN nq).heap.size := hbz
            clear cv hS hbz hb
            generalize wr.drewN nq = wq at *
            have hba : Below wq.heap.size wq (wq.alloc (.cells #[.int .i64 2, .int .i64 (i : Int), .int .i64 1, .slice none 0 0] 76)) := (Below.refl _ _).alloc (Nat.le_refl _) _
            have hrow := own_keep hSd.1.row hba
            go_wp2_with (first
              | (at_builtin
                 go_must (refine wpList_app _ rfl (.tmp 79) (.tmp 82) _ rfl w.heap.size 76 i0 _ 4 48 Try.underlying39 hi0 hz0 hz1 Hz.out rfl (by decide) _ nn _ rfl hrow _ 1 1 (ov4 (⟨2, i, 1, []⟩, .slice none 0 0)) rfl (fun h => by cases h) (rd_op (o := ⟨2, i, 1, []⟩) rfl) (ov_one _ _ _ _) (by unfold maxLen; omega) (by omega) (by simp; omega) ?_)
                 intro v3 w3 hown3 hg3 hat3
                 have hS3 := sofar_push (o := ⟨2, i, 1, []⟩) (d := .slice none 0 0) hSd hba (own_nil _ _ _ _) (fun k hk => by cases hk) hown3 hg3)
              | fail)
            go_roundw
            case rel => exact ⟨i + 1, nn + 1, _, by omega, by go_num, by omega, by rw [HR.out]; exact hS3⟩
            case measure => simp [intOf]; omega
          · have hxb : ((x : Int) == 0) = false := by simp; omega
            have HR := Lib.hid (step_write hx0 Hm.out (.inl Hpp.out))
            clear hx0
            go_wp2_with fail
            go_quiet (fail)
            have hSd : Sofar w (wr.drewN nq) (.slice Ar nn cr) nn L (shortS (tof tc f) i) := ⟨hS.1.keep (below_drewN (Below.refl _ _) nq), hS.2.1, below_drewN hS.2.2 nq⟩
            have cvd : (wr.drewN nq).cell? ⟨b, o + i, none⟩ = some (.int .u64 (x : Int)) := cv
            have hbzd : w.heap.size ≤ (wr.drewN nq).heap.size := hbz
            clear cv hS hbz hb
            generalize wr.drewN nq = wq at *
            have hbA : Below wq.heap.size wq (wq.alloc (.cells #[.int .u64 (x : Int)] 51)) := (Below.refl _ _).alloc (Nat.le_refl _) _
            have hsA : (wq.alloc (.cells #[.int .u64 (x : Int)] 51)).heap.size = wq.heap.size + 1 := by simp
            have hbB : Below wq.heap.size wq ((wq.alloc (.cells #[.int .u64 (x : Int)] 51)).alloc (.cells #[.int .i64 1, .int .i64 (i : Int), .int .i64 0, .slice (some ⟨wq.heap.size, 0, none⟩) 1 1] 76)) := hbA.alloc (by omega) _
            have hrow := own_keep hSd.1.row hbB
            have hdat : ((wq.alloc (.cells #[.int .u64 (x : Int)] 51)).alloc (.cells #[.int .i64 1, .int .i64 (i : Int), .int .i64 0, .slice (some ⟨wq.heap.size, 0, none⟩) 1 1] 76)).ownsRow w.heap.size 51 1 (.slice (some ⟨wq.heap.size, 0, none⟩) 1 1) 1 [.int .u64 (x : Int)] := (own_keep (own_one wq (.int .u64 (x : Int)) 51) ((Below.refl _ _).alloc (Nat.le_refl _) _)).mono hbzd
            go_wp2_with (first
              | (at_builtin
                 go_must (refine wpList_app _ rfl (.tmp 45) (.tmp 53) _ rfl w.heap.size 76 i0 _ 4 48 Try.underlying39 hi0 hz0 hz1 Hz.out rfl (by decide) _ nn _ rfl hrow _ 1 1 (ov4 (⟨1, i, 0, [x]⟩, .slice (some ⟨wq.heap.size, 0, none⟩) 1 1)) rfl (fun h => by cases h) (rd_op (o := ⟨1, i, 0, [x]⟩) (by simp)) (ov_one _ _ _ _) (by unfold maxLen; omega) (by omega) (by simp; omega) ?_)
                 intro v3 w3 hown3 hg3 hat3
                 have hS3 := sofar_push (o := ⟨1, i, 0, [x]⟩) (d := .slice (some ⟨wq.heap.size, 0, none⟩) 1 1) hSd hbB hdat (fun k hk => by simp only [Value.ownBlock, Option.some.injEq] at hk; omega) hown3 hg3)
              | fail)
            go_roundw
            case rel => exact ⟨i + 1, nn + 1, _, by omega, by go_num, by omega, by rw [HR.out]; exact hS3⟩
            case measure => simp [intOf]; omega
        · obtain ⟨p, hip⟩ : ∃ p, i = p + 1 := ⟨i - 1, by omega⟩
          have hpn : p < n := by omega
          have hpos : (0 : Int) < (i : Int) := by omega
          have hpos2 : 0 < i := by omega
          have hpos3 : decide (0 < i) = true := by simp; omega
          have hwp : IntKind.i64.wrap ((i : Int) - 1) = (p : Int) := by rw [IntKind.wrap_i64]; omega
          have hp0 : (0 : Int) ≤ (p : Int) := by omega
          have hpl : (p : Int) < (n : Int) := by omega
          have Hpp := Lib.hid (Hpv.out p hip)
          obtain ⟨b2, o2, e2, cw, hyl⟩ := vol_cell (hcv.below hb) hpn
          obtain ⟨b3, o3, e3, cs⟩ := tvs_cell (hct.below hb) hpn
          injection e2 with e2
          injection e2 with e2 e2'
          injection e3 with e3
          injection e3 with e3 e3'
          subst e2 e2' e3 e3'
          clear h0 hip
          cases htp : tc p with
          | false =>
            rw [htp] at cs
            have Hpq := Lib.hid (show prevOf (tof tc f) i = none by rw [Hpp.out]; exact tof_no htp)
            clear htp
            by_cases hx0 : x = 0
            · have hxb : ((x : Int) == 0) = true := by simp; omega
              have HR := Lib.hid (step_trim (m := tof tc f) (k := i) (by rw [← hx0]; exact Hm.out) (by rw [Hpq.out]; simp))
              clear hx0
              go_wp2_with fail
              go_quiet (fail)
              have hSd : Sofar w (wr.drewN nq) (.slice Ar nn cr) nn L (shortS (tof tc f) i) := ⟨hS.1.keep (below_drewN (Below.refl _ _) nq), hS.2.1, below_drewN hS.2.2 nq⟩
              have cvd : (wr.drewN nq).cell? ⟨b, o + i, none⟩ = some (.int .u64 (x : Int)) := cv
              have hbzd : w.heap.size ≤ (wr.drewN nq).heap.size := hbz
              clear cv hS hbz hb
              generalize wr.drewN nq = wq at *
              have hba : Below wq.heap.size wq (wq.alloc (.cells #[.int .i64 2, .int .i64 (i : Int), .int .i64 1, .slice none 0 0] 76)) := (Below.refl _ _).alloc (Nat.le_refl _) _
              have hrow := own_keep hSd.1.row hba
              go_wp2_with (first
                | (at_builtin
                   go_must (refine wpList_app _ rfl (.tmp 79) (.tmp 82) _ rfl w.heap.size 76 i0 _ 4 48 Try.underlying39 hi0 hz0 hz1 Hz.out rfl (by decide) _ nn _ rfl hrow _ 1 1 (ov4 (⟨2, i, 1, []⟩, .slice none 0 0)) rfl (fun h => by cases h) (rd_op (o := ⟨2, i, 1, []⟩) rfl) (ov_one _ _ _ _) (by unfold maxLen; omega) (by omega) (by simp; omega) ?_)
                   intro v3 w3 hown3 hg3 hat3
                   have hS3 := sofar_push (o := ⟨2, i, 1, []⟩) (d := .slice none 0 0) hSd hba (own_nil _ _ _ _) (fun k hk => by cases hk) hown3 hg3)
                | fail)
              go_roundw
              case rel => exact ⟨i + 1, nn + 1, _, by omega, by go_num, by omega, by rw [HR.out]; exact hS3⟩
              case measure => simp [intOf]; omega
            · have hxb : ((x : Int) == 0) = false := by simp; omega
              have HR := Lib.hid (step_write hx0 Hm.out (.inl Hpq.out))
              clear hx0
              go_wp2_with fail
              go_quiet (fail)
              have hSd : Sofar w (wr.drewN nq) (.slice Ar nn cr) nn L (shortS (tof tc f) i) := ⟨hS.1.keep (below_drewN (Below.refl _ _) nq), hS.2.1, below_drewN hS.2.2 nq⟩
              have cvd : (wr.drewN nq).cell? ⟨b, o + i, none⟩ = some (.int .u64 (x : Int)) := cv
              have hbzd : w.heap.size ≤ (wr.drewN nq).heap.size := hbz
              clear cv hS hbz hb
              generalize wr.drewN nq = wq at *
              have hbA : Below wq.heap.size wq (wq.alloc (.cells #[.int .u64 (x : Int)] 51)) := (Below.refl _ _).alloc (Nat.le_refl _) _
              have hsA : (wq.alloc (.cells #[.int .u64 (x : Int)] 51)).heap.size = wq.heap.size + 1 := by simp
              have hbB : Below wq.heap.size wq ((wq.alloc (.cells #[.int .u64 (x : Int)] 51)).alloc (.cells #[.int .i64 1, .int .i64 (i : Int), .int .i64 0, .slice (some ⟨wq.heap.size, 0, none⟩) 1 1] 76)) := hbA.alloc (by omega) _
              have hrow := own_keep hSd.1.row hbB
              have hdat : ((wq.alloc (.cells #[.int .u64 (x : Int)] 51)).alloc (.cells #[.int .i64 1, .int .i64 (i : Int), .int .i64 0, .slice (some ⟨wq.heap.size, 0, none⟩) 1 1] 76)).ownsRow w.heap.size 51 1 (.slice (some ⟨wq.heap.size, 0, none⟩) 1 1) 1 [.int .u64 (x : Int)] := (own_keep (own_one wq (.int .u64 (x : Int)) 51) ((Below.refl _ _).alloc (Nat.le_refl _) _)).mono hbzd
              go_wp2_with (first
                | (at_builtin
                   go_must (refine wpList_app _ rfl (.tmp 45) (.tmp 53) _ rfl w.heap.size 76 i0 _ 4 48 Try.underlying39 hi0 hz0 hz1 Hz.out rfl (by decide) _ nn _ rfl hrow _ 1 1 (ov4 (⟨1, i, 0, [x]⟩, .slice (some ⟨wq.heap.size, 0, none⟩) 1 1)) rfl (fun h => by cases h) (rd_op (o := ⟨1, i, 0, [x]⟩) (by simp)) (ov_one _ _ _ _) (by unfold maxLen; omega) (by omega) (by simp; omega) ?_)
                   intro v3 w3 hown3 hg3 hat3
                   have hS3 := sofar_push (o := ⟨1, i, 0, [x]⟩) (d := .slice (some ⟨wq.heap.size, 0, none⟩) 1 1) hSd hbB hdat (fun k hk => by simp only [Value.ownBlock, Option.some.injEq] at hk; omega) hown3 hg3)
                | fail)
              go_roundw
              case rel => exact ⟨i + 1, nn + 1, _, by omega, by go_num, by omega, by rw [HR.out]; exact hS3⟩
              case measure => simp [intOf]; omega
          | true =>
            rw [htp] at cs
            have Hpq := Lib.hid (show prevOf (tof tc f) i = some (f (p : Int)) by rw [Hpp.out]; exact tof_yes htp rfl)
            generalize f (p : Int) = y at *
            clear htp
            by_cases hy0 : y = 0
            · have hyb : ((y : Int) == 0) = true := by simp; omega
              by_cases hx0 : x = 0
              · have hxb : ((x : Int) == 0) = true := by simp; omega
                obtain ⟨P, yl, e1, e2, hl1, hl2⟩ := step_trim2 (m := tof tc f) (k := i) (by rw [← hx0]; exact Hm.out) (by rw [Hpq.out, hy0])
                have HR := Lib.hid e2
                have hl3 := hl2 (by omega)
                have hSL := hS.1
                obtain ⟨PL, dy, hLe, hPm⟩ := map_snoc (hS.2.1.trans e1)
                subst hLe
                obtain ⟨g, cap, cur, eg, hncap, hcap, hbg, hnm, -, k0, k1, k2, k3, kz⟩ := ol_last hSL
                injection eg with eg _ ec
                subst eg ec
                have hyd := hSL.data (yl, dy) (by simp)
                dsimp only at hyd
                obtain ⟨Yd, cy, rfl, hycy, hcym, hYn⟩ := own_form hyd
                generalize hmm : PL.length = m at *
                have Hmm := Lib.hid hmm
                have hwm : IntKind.i64.wrap ((nn : Int) - 1) = (m : Int) := by rw [IntKind.wrap_i64]; omega
                have hm0 : (0 : Int) ≤ (m : Int) := by omega
                have hmn : (m : Int) < (nn : Int) := by omega
                have Hnm := Lib.hid hnm
                have hnn2 : nn ≤ 2000 := by omega
                clear hmm hnm
                have hwl : IntKind.i64.wrap (yl.len + 1) = yl.len + 1 := by rw [IntKind.wrap_i64]; omega
                clear hx0 hy0 e1 e2 hl2
                go_wp2_with fail
                go_quiet (fail)
                have hSq : Ol (wr.drewN nq) w.heap.size (.slice (some ⟨g, 0, none⟩) nn cr) nn (PL ++ [(yl, .slice Yd yl.data.length cy)]) := hSL.keep (below_drewN (Below.refl _ _) nq)
                have hBq : Below w.heap.size w (wr.drewN nq) := below_drewN hb nq
                have q2 : (wr.drewN nq).cell? ⟨g, m * 4 + 2, none⟩ = some (.int .i64 yl.len) := k2
                have qz : (wr.drewN nq).frozen? ⟨g, m * 4 + 2, none⟩ = false := kz (m * 4 + 2)
                have cvd : (wr.drewN nq).cell? ⟨b, o + i, none⟩ = some (.int .u64 (x : Int)) := cv
                clear cv hS hSL hb k0 k1 k2 k3 kz hyd cw cs ct
                generalize wr.drewN nq = wq at *
                have hO3 := ol_setLen hSq (yl.len + 1)
                rw [Hmm.out] at hO3
                have hB3 : Below w.heap.size w (wq.setCell ⟨g, m * 4 + 2, none⟩ (.int .i64 (yl.len + 1))) := hBq.setCell hbg _
                go_wp2
                go_roundw
                case rel => exact ⟨i + 1, nn, _, by omega, by go_num, by omega, hO3, by rw [HR.out, List.map_append, hPm]; rfl, hB3⟩
                case measure => simp [intOf]; omega
              · have hxb : ((x : Int) == 0) = false := by simp; omega
                have HR := Lib.hid (step_write hx0 Hm.out (.inr (by rw [Hpq.out, hy0])))
                clear hx0 hy0
                go_wp2_with fail
                go_quiet (fail)
                have hSd : Sofar w (wr.drewN nq) (.slice Ar nn cr) nn L (shortS (tof tc f) i) := ⟨hS.1.keep (below_drewN (Below.refl _ _) nq), hS.2.1, below_drewN hS.2.2 nq⟩
                have cvd : (wr.drewN nq).cell? ⟨b, o + i, none⟩ = some (.int .u64 (x : Int)) := cv
                have hbzd : w.heap.size ≤ (wr.drewN nq).heap.size := hbz
                clear cv hS hbz hb
                generalize wr.drewN nq = wq at *
                have hbA : Below wq.heap.size wq (wq.alloc (.cells #[.int .u64 (x : Int)] 51)) := (Below.refl _ _).alloc (Nat.le_refl _) _
                have hsA : (wq.alloc (.cells #[.int .u64 (x : Int)] 51)).heap.size = wq.heap.size + 1 := by simp
                have hbB : Below wq.heap.size wq ((wq.alloc (.cells #[.int .u64 (x : Int)] 51)).alloc (.cells #[.int .i64 1, .int .i64 (i : Int), .int .i64 0, .slice (some ⟨wq.heap.size, 0, none⟩) 1 1] 76)) := hbA.alloc (by omega) _
                have hrow := own_keep hSd.1.row hbB
                have hdat : ((wq.alloc (.cells #[.int .u64 (x : Int)] 51)).alloc (.cells #[.int .i64 1, .int .i64 (i : Int), .int .i64 0, .slice (some ⟨wq.heap.size, 0, none⟩) 1 1] 76)).ownsRow w.heap.size 51 1 (.slice (some ⟨wq.heap.size, 0, none⟩) 1 1) 1 [.int .u64 (x : Int)] := (own_keep (own_one wq (.int .u64 (x : Int)) 51) ((Below.refl _ _).alloc (Nat.le_refl _) _)).mono hbzd
                go_wp2_with (first
                  | (at_builtin
                     go_must (refine wpList_app _ rfl (.tmp 45) (.tmp 53) _ rfl w.heap.size 76 i0 _ 4 48 Try.underlying39 hi0 hz0 hz1 Hz.out rfl (by decide) _ nn _ rfl hrow _ 1 1 (ov4 (⟨1, i, 0, [x]⟩, .slice (some ⟨wq.heap.size, 0, none⟩) 1 1)) rfl (fun h => by cases h) (rd_op (o := ⟨1, i, 0, [x]⟩) (by simp)) (ov_one _ _ _ _) (by unfold maxLen; omega) (by omega) (by simp; omega) ?_)
                     intro v3 w3 hown3 hg3 hat3
                     have hS3 := sofar_push (o := ⟨1, i, 0, [x]⟩) (d := .slice (some ⟨wq.heap.size, 0, none⟩) 1 1) hSd hbB hdat (fun k hk => by simp only [Value.ownBlock, Option.some.injEq] at hk; omega) hown3 hg3)
                  | fail)
                go_roundw
                case rel => exact ⟨i + 1, nn + 1, _, by omega, by go_num, by omega, by rw [HR.out]; exact hS3⟩
                case measure => simp [intOf]; omega
            · have hyb : ((y : Int) == 0) = false := by simp; omega
              by_cases hx0 : x = 0
              · have hxb : ((x : Int) == 0) = true := by simp; omega
                have HR := Lib.hid (step_trim (m := tof tc f) (k := i) (by rw [← hx0]; exact Hm.out) (by rw [Hpq.out]; simp [hy0]))
                clear hx0 hy0
                go_wp2_with fail
                go_quiet (fail)
                have hSd : Sofar w (wr.drewN nq) (.slice Ar nn cr) nn L (shortS (tof tc f) i) := ⟨hS.1.keep (below_drewN (Below.refl _ _) nq), hS.2.1, below_drewN hS.2.2 nq⟩
                have cvd : (wr.drewN nq).cell? ⟨b, o + i, none⟩ = some (.int .u64 (x : Int)) := cv
                have hbzd : w.heap.size ≤ (wr.drewN nq).heap.size := hbz
                clear cv hS hbz hb
                generalize wr.drewN nq = wq at *
                have hba : Below wq.heap.size wq (wq.alloc (.cells #[.int .i64 2, .int .i64 (i : Int), .int .i64 1, .slice none 0 0] 76)) := (Below.refl _ _).alloc (Nat.le_refl _) _
                have hrow := own_keep hSd.1.row hba
                go_wp2_with (first
                  | (at_builtin
                     go_must (refine wpList_app _ rfl (.tmp 79) (.tmp 82) _ rfl w.heap.size 76 i0 _ 4 48 Try.underlying39 hi0 hz0 hz1 Hz.out rfl (by decide) _ nn _ rfl hrow _ 1 1 (ov4 (⟨2, i, 1, []⟩, .slice none 0 0)) rfl (fun h => by cases h) (rd_op (o := ⟨2, i, 1, []⟩) rfl) (ov_one _ _ _ _) (by unfold maxLen; omega) (by omega) (by simp; omega) ?_)
                     intro v3 w3 hown3 hg3 hat3
                     have hS3 := sofar_push (o := ⟨2, i, 1, []⟩) (d := .slice none 0 0) hSd hba (own_nil _ _ _ _) (fun k hk => by cases hk) hown3 hg3)
                  | fail)
                go_roundw
                case rel => exact ⟨i + 1, nn + 1, _, by omega, by go_num, by omega, by rw [HR.out]; exact hS3⟩
                case measure => simp [intOf]; omega
              · have hxb : ((x : Int) == 0) = false := by simp; omega
                obtain ⟨P, yl, e1, hy1', hy2', hy3', hy4', e2, e3⟩ := step_write2 (m := tof tc f) (k := i) hx0 Hm.out hy0 Hpq.out
                by_cases hsh : yl.data.length < 64
                · have HR := Lib.hid (e2 hsh)
                  have hSL := hS.1
                  obtain ⟨PL, dy, hLe, hPm⟩ := map_snoc (hS.2.1.trans e1)
                  subst hLe
                  obtain ⟨g, cap, cur, eg, hncap, hcap, hbg, hnm, -, k0, k1, k2, k3, kz⟩ := ol_last hSL
                  injection eg with eg _ ec
                  subst eg ec
                  have hyd := hSL.data (yl, dy) (by simp)
                  dsimp only at hyd
                  obtain ⟨Yd, cy, rfl, hycy, hcym, hYn⟩ := own_form hyd
                  generalize hmm : PL.length = m at *
                  have Hmm := Lib.hid hmm
                  have hwm : IntKind.i64.wrap ((nn : Int) - 1) = (m : Int) := by rw [IntKind.wrap_i64]; omega
                  have hm0 : (0 : Int) ≤ (m : Int) := by omega
                  have hmn : (m : Int) < (nn : Int) := by omega
                  have Hnm := Lib.hid hnm
                  have hnn2 : nn ≤ 2000 := by omega
                  clear hmm hnm
                  have hsh2 : ((yl.data.length : Nat) : Int) < 64 := by omega
                  have hdl : yl.data.length ≤ 64 := hy4'
                  have Hdl := Lib.hid (show 0 < yl.data.length from hy3')
                  clear hx0 hy0 e1 e2 e3 hy3' hy4'
                  go_wp2_with fail
                  go_quiet (fail)
                  have hSq : Ol (wr.drewN nq) w.heap.size (.slice (some ⟨g, 0, none⟩) nn cr) nn (PL ++ [(yl, .slice Yd yl.data.length cy)]) := hSL.keep (below_drewN (Below.refl _ _) nq)
                  have hBq : Below w.heap.size w (wr.drewN nq) := below_drewN hb nq
                  have q3 : (wr.drewN nq).cell? ⟨g, m * 4 + 3, none⟩ = some (.slice Yd yl.data.length cy) := k3
                  have qz : (wr.drewN nq).frozen? ⟨g, m * 4 + 3, none⟩ = false := kz (m * 4 + 3)
                  have cvd : (wr.drewN nq).cell? ⟨b, o + i, none⟩ = some (.int .u64 (x : Int)) := cv
                  have hydq : (wr.drewN nq).ownsRow w.heap.size 51 1 (.slice Yd yl.data.length cy) yl.data.length (nvs yl.data) := hyd
                  clear cv hS hSL hb k0 k1 k2 k3 kz hyd cw cs ct
                  generalize wr.drewN nq = wq at *
                  generalize hmy : yl.data.length = my at *
                  have Hmy := Lib.hid hmy
                  clear hmy
                  have hgl : g < wq.heap.size := (hSq.row.lt g rfl).2
                  have hbl : b < wq.heap.size := cell_lt cvd
                  have hD0 : Below wq.heap.size wq wq.drew := below_drew0 wq
                  have hDA : Below wq.heap.size wq (wq.drew.alloc (.cells #[.int .u64 (x : Int)] 51)) := hD0.alloc (Nat.le_refl _) _
                  have hqz : w.heap.size ≤ wq.heap.size := hBq.size
                  go_wp2_with fail
                  go_region_law (
                    first
                      | (refine step_app _ rfl (.const (.slice none 0 0)) (.tmp 104) _ rfl wq.heap.size 51 i1 _ 1 8 Try.underlying23 hi1 hy0 hy1 Hy.out rfl Nat.one_pos (.slice none 0 0) 0 [] rfl (own_nil _ _ _ _) Yd my cy (nvs yl.data) rfl (fun h => (hYn h).1) (show Rd wq.drew Yd 1 my (nvs yl.data) from rd_own hydq) (nvs_one _) (by unfold maxLen; omega) (by omega) (Nat.le_refl _) ?_
                         intro v1 w1 hown1 hg1 hat1
                         simp only [Nat.zero_add, List.nil_append] at hown1
                         obtain ⟨A1, c1, rfl, hc1, hcm1, hA1⟩ := own_form hown1
                         have hb1 : Below wq.heap.size wq w1 := hD0.grown hg1 (Nat.le_refl _) (fun k hk => by cases hk)
                         have cv1 := (hb1.cell hbl).trans cvd
                         have hr1 := rd_new1 w1 (.int .u64 (x : Int)) 51
                         have ho1 := own_keep hown1 (show Below w1.heap.size w1 (w1.alloc (.cells #[.int .u64 (x : Int)] 51)) from (Below.refl _ _).alloc (Nat.le_refl _) _)
                         have hs1 : wq.heap.size ≤ (w1.alloc (.cells #[.int .u64 (x : Int)] 51)).heap.size := Nat.le_trans hb1.size (by simp)
                         have hb1' : Below wq.heap.size wq (w1.alloc (.cells #[.int .u64 (x : Int)] 51)) := hb1.alloc hb1.size _)
                      | (refine step_app _ rfl (.const (.slice none 0 0)) (.tmp 104) _ rfl wq.heap.size 51 i1 _ 1 8 Try.underlying23 hi1 hy0 hy1 Hy.out rfl Nat.one_pos (.slice none 0 0) 0 [] rfl (own_nil _ _ _ _) Yd my cy (nvs yl.data) rfl (fun h => (hYn h).1) (show Rd (wq.drew.alloc (.cells #[.int .u64 (x : Int)] 51)) Yd 1 my (nvs yl.data) from (show Rd wq.drew Yd 1 my (nvs yl.data) from rd_own hydq).alloc _) (nvs_one _) (by unfold maxLen; omega) (by omega) hDA.size ?_
                         intro v2 w2 hown2 hg2 hat2
                         simp only [Nat.zero_add, List.nil_append] at hown2
                         obtain ⟨A2, c2, rfl, hc2, hcm2, hA2⟩ := own_form hown2
                         have hb2 : Below wq.heap.size wq w2 := hDA.grown hg2 hDA.size (fun k hk => by cases hk)
                         have hr2 := Rd.grown (rd_new1 wq.drew (.int .u64 (x : Int)) 51) hg2 (fun a _ => by simp [Value.ownBlock])
                         have ho2 := hown2
                         have hs2 : wq.heap.size ≤ w2.heap.size := hb2.size)
                      | (refine step_app _ rfl (.tmp 105) (.tmp 110) _ rfl wq.heap.size 51 i1 _ 1 8 Try.underlying23 hi1 hy0 hy1 Hy.out rfl Nat.one_pos (.slice A1 my c1) my _ rfl ho1 _ 1 1 [.int .u64 (x : Int)] rfl (fun h => by cases h) hr1 one_u64 (by unfold maxLen; omega) (by omega) hs1 ?_
                         intro v3 w3 hown3 hg3 hat3
                         obtain ⟨A3, c3, rfl, hc3, hcm3, hA3⟩ := own_form hown3
                         have hb3 : Below wq.heap.size wq w3 := hb1'.grown hg3 hs1 (own_from ho1)
                         have k3' := (hb3.cell hgl).trans q3
                         have f3 := frozen_below hb3 hgl qz)
                      | (refine step_app _ rfl (.tmp 105) (.tmp 110) _ rfl wq.heap.size 51 i1 _ 1 8 Try.underlying23 hi1 hy0 hy1 Hy.out rfl Nat.one_pos (.slice A2 my c2) my _ rfl ho2 _ 1 1 [.int .u64 (x : Int)] rfl (fun h => by cases h) hr2 one_u64 (by unfold maxLen; omega) (by omega) hs2 ?_
                         intro v3 w3 hown3 hg3 hat3
                         obtain ⟨A3, c3, rfl, hc3, hcm3, hA3⟩ := own_form hown3
                         have hb3 : Below wq.heap.size wq w3 := hb2.grown hg3 hs2 (own_from ho2)
                         have k3' := (hb3.cell hgl).trans q3
                         have f3 := frozen_below hb3 hgl qz))
                  all_goals (
                    have hd3 : w3.ownsRow w.heap.size 51 1 (.slice A3 (my + 1) c3) ({ yl with data := yl.data ++ [x] } : BOp).data.length (nvs ({ yl with data := yl.data ++ [x] } : BOp).data) := by
                      have e : ({ yl with data := yl.data ++ [x] } : BOp).data.length = my + 1 := by simp [Hmy.out]
                      rw [e]
                      dsimp only
                      rw [nvs_app]
                      exact hown3.mono hqz
                    have hO3 := ol_setDat hSq (below_grown hb3 _) hd3 (.inr fun k hk => (hown3.lt k hk).1) rfl rfl rfl
                    rw [Hmm.out] at hO3
                    have hB3 : Below w.heap.size w (w3.setCell ⟨g, m * 4 + 3, none⟩ (.slice A3 (my + 1) c3)) := (hBq.trans (hb3.mono hqz)).setCell hbg _
                    go_wp2
                    go_roundw
                    case rel => exact ⟨i + 1, nn, _, by omega, by go_num, by omega, hO3, by rw [HR.out, List.map_append, hPm]; rfl, hB3⟩
                    case measure => simp [intOf]; omega)
                · have HR := Lib.hid (e3 hsh)
                  have hSL := hS.1
                  obtain ⟨PL, dy, hLe, hPm⟩ := map_snoc (hS.2.1.trans e1)
                  subst hLe
                  obtain ⟨g, cap, cur, eg, hncap, hcap, hbg, hnm, -, k0, k1, k2, k3, kz⟩ := ol_last hSL
                  injection eg with eg _ ec
                  subst eg ec
                  have hyd := hSL.data (yl, dy) (by simp)
                  dsimp only at hyd
                  obtain ⟨Yd, cy, rfl, hycy, hcym, hYn⟩ := own_form hyd
                  generalize hmm : PL.length = m at *
                  have Hmm := Lib.hid hmm
                  have hwm : IntKind.i64.wrap ((nn : Int) - 1) = (m : Int) := by rw [IntKind.wrap_i64]; omega
                  have hm0 : (0 : Int) ≤ (m : Int) := by omega
                  have hmn : (m : Int) < (nn : Int) := by omega
                  have Hnm := Lib.hid hnm
                  have hnn2 : nn ≤ 2000 := by omega
                  clear hmm hnm
                  have hsh2 : ¬ ((yl.data.length : Nat) : Int) < 64 := by omega
                  clear hx0 hy0 e1 e2 e3 hsh hy3' hy4'
                  generalize hmy : yl.data.length = my at *
                  have Hmy := Lib.hid hmy
                  clear hmy
                  go_wp2_with fail
                  go_quiet (fail)
                  have hSd : Sofar w (wr.drewN nq) (.slice (some ⟨g, 0, none⟩) nn cr) nn (PL ++ [(yl, .slice Yd my cy)]) (shortS (tof tc f) i) := ⟨hS.1.keep (below_drewN (Below.refl _ _) nq), hS.2.1, below_drewN hS.2.2 nq⟩
                  have cvd : (wr.drewN nq).cell? ⟨b, o + i, none⟩ = some (.int .u64 (x : Int)) := cv
                  have hbzd : w.heap.size ≤ (wr.drewN nq).heap.size := hbz
                  have q3 : (wr.drewN nq).cell? ⟨g, m * 4 + 3, none⟩ = some (.slice Yd my cy) := k3
                  clear hSL hyd k0 k1 k2 k3 kz cw cs ct cv hS hbz hb
                  generalize wr.drewN nq = wq at *
                  have hbA : Below wq.heap.size wq (wq.alloc (.cells #[.int .u64 (x : Int)] 51)) := (Below.refl _ _).alloc (Nat.le_refl _) _
                  have hsA : (wq.alloc (.cells #[.int .u64 (x : Int)] 51)).heap.size = wq.heap.size + 1 := by simp
                  have hbB : Below wq.heap.size wq ((wq.alloc (.cells #[.int .u64 (x : Int)] 51)).alloc (.cells #[.int .i64 1, .int .i64 (i : Int), .int .i64 0, .slice (some ⟨wq.heap.size, 0, none⟩) 1 1] 76)) := hbA.alloc (by omega) _
                  have hrow := own_keep hSd.1.row hbB
                  have hdat : ((wq.alloc (.cells #[.int .u64 (x : Int)] 51)).alloc (.cells #[.int .i64 1, .int .i64 (i : Int), .int .i64 0, .slice (some ⟨wq.heap.size, 0, none⟩) 1 1] 76)).ownsRow w.heap.size 51 1 (.slice (some ⟨wq.heap.size, 0, none⟩) 1 1) 1 [.int .u64 (x : Int)] := (own_keep (own_one wq (.int .u64 (x : Int)) 51) ((Below.refl _ _).alloc (Nat.le_refl _) _)).mono hbzd
                  go_wp2_with (first
                    | (at_builtin
                       go_must (refine wpList_app _ rfl (.tmp 45) (.tmp 53) _ rfl w.heap.size 76 i0 _ 4 48 Try.underlying39 hi0 hz0 hz1 Hz.out rfl (by decide) _ nn _ rfl hrow _ 1 1 (ov4 (⟨1, i, 0, [x]⟩, .slice (some ⟨wq.heap.size, 0, none⟩) 1 1)) rfl (fun h => by cases h) (rd_op (o := ⟨1, i, 0, [x]⟩) (by simp)) (ov_one _ _ _ _) (by unfold maxLen; omega) (by omega) (by simp; omega) ?_)
                       intro v3 w3 hown3 hg3 hat3
                       have hS3 := sofar_push (o := ⟨1, i, 0, [x]⟩) (d := .slice (some ⟨wq.heap.size, 0, none⟩) 1 1) hSd hbB hdat (fun k hk => by simp only [Value.ownBlock, Option.some.injEq] at hk; omega) hown3 hg3)
                    | fail)
                  go_roundw
                  case rel => exact ⟨i + 1, nn + 1, _, by omega, by go_num, by omega, by rw [HR.out]; exact hS3⟩
                  case measure => simp [intOf]; omega
    · have hin : (n : Int) ≤ (i : Int) := by omega
      have hen : i = n := by omega
      have HS := Lib.hid hen
      clear hen
      go_wp2
      go_ret
      exact ⟨_, nn, L, rfl, hS.1, by rw [← HS.out]; exact hS.2.1, hb⟩
end
end Blo
end Go.Proofs.Ytfdfjnepfgabaaa

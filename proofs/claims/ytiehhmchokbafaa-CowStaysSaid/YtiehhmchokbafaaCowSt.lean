/- Layer 7: P7.3: trees stay as they were made, whatever is made of them. No condition. -/
import Derived.Test.YtiehhmchokbafaaCowAf
set_option linter.all false
namespace Go.Proofs.Ytiehhmchokbafaa
open Go.ChangeShapes Go.WideShapes Go.ChangeAt Go.RowKit

abbrev Row3 : Type := Option Addr × Nat × Nat
def sv (L : Row3) : Value := .slice L.1 L.2.1 L.2.2
/-- A forest, and the lists of all its trees, in a row of their own. -/
structure Stay (w wr : World) (f : Nat) (ls : List Root) (Ls : List Row3) (v : Value) : Prop where
  fo : Fo wr w.heap.size f ls
  below : Below w.heap.size w wr
  row : wr.ownsRow w.heap.size 42 1 v Ls.length (Ls.map sv)
  len : Ls.length = ls.length
  each : ∀ (i : Nat) (L : Row3) (q : Root), Ls[i]? = some L → ls[i]? = some q → Eo wr w.heap.size (sv L) L.2.1 q.2.list
theorem Stay.ty {T : TypeId → Prop} {w wr wx : World} {f : Nat} {ls : List Root} {Ls : List Row3} {v : Value} (h : Stay w wr f ls Ls v) (ht : Ty T wr wx) (hb : Below w.heap.size wr wx) (h1 : ¬ T 65) (h2 : ¬ T 70) (h3 : ¬ T 80) (h4 : ¬ T 24) (h5 : ¬ T 42) : Stay w wx f ls Ls v :=
  ⟨h.fo.ty ht h1 h2 h3, h.below.trans hb, own_ty ht h5 h.row, h.len, fun i L q e1 e2 => own_ty ht h4 (h.each i L q e1 e2)⟩
theorem Stay.keep {w wr wx : World} {f : Nat} {ls : List Root} {Ls : List Row3} {v : Value} (h : Stay w wr f ls Ls v) (hb : Below wr.heap.size wr wx) : Stay w wx f ls Ls v :=
  h.ty (T := fun _ => False) (Ty.ofBelow hb) (hb.mono h.below.size) id id id id id
/-- List i, as it was answered. -/
theorem Stay.at_ {w wr : World} {f : Nat} {ls : List Root} {Ls : List Row3} {A : Option Addr} {n c : Nat} (h : Stay w wr f ls Ls (.slice A n c)) {i : Nat} (hi : i < ls.length) :
    ∃ (b : Nat) (L : Row3) (q : Root), A = some ⟨b, 0, none⟩ ∧ ls[i]? = some q ∧ wr.cell? ⟨b, i, none⟩ = some (.slice L.1 L.2.1 L.2.2) ∧ Es wr L.1 L.2.1 q.2.list ∧ L.2.1 ≤ 9223372036854775807 ∧ n = ls.length := by
  have hlen := h.len
  have hiL : i < Ls.length := by omega
  obtain ⟨q, hq⟩ : ∃ q, ls[i]? = some q := ⟨_, List.getElem?_eq_getElem hi⟩
  obtain ⟨L, hL⟩ : ∃ L, Ls[i]? = some L := ⟨_, List.getElem?_eq_getElem hiL⟩
  have he := h.each i L q hL hq
  have hr := (h.fo.trees q (List.mem_of_getElem? hq)).2.2
  have hm : L.2.1 ≤ 1024 := by have := eo_len he; have := right_short hr; omega
  rcases h.row.2 with ⟨e, hn⟩ | ⟨g, cap, cur, hv, -, hg, hc, -, hcs, hx⟩
  · omega
  · injection hv with e1 e2 e3
    subst e1 e2 e3
    have hg' : Blk wr g 42 cur := hg
    refine ⟨g, L, q, rfl, hq, hg'.cell ?_, eo_es he (mays_fit (mays_right hr)), by omega, hlen⟩
    have h1 : (Ls.map sv)[i]? = some (sv L) := by rw [List.getElem?_map, hL]; rfl
    rw [← hx, List.getElem?_take, if_pos (by omega)] at h1
    simpa [sv] using h1
theorem slice_info : ∃ i, Try.prog.info? 42 = some i ∧ i.zero = some (.slice none 0 0) ∧ i.size = 1 ∧ i.bytes = 24 := by
  have h : (Try.prog.info? 42).map (fun i => (i.zero, i.size, i.bytes)) = some (some (.slice none 0 0), 1, 24) := by kernel_rfl
  obtain ⟨i, hi, he⟩ := Option.map_eq_some_iff.1 h
  simp only [Prod.mk.injEq] at he
  exact ⟨i, hi, he.1, he.2.1, he.2.2⟩
/-- A tree more, and its list. -/
theorem Stay.more {w wr wa wb : World} {f : Nat} {ls : List Root} {Ls : List Row3} {v v5 : Value} {q' : Root} {L : Row3} (h : Stay w wr f ls Ls v)
    (hM : Fo wa w.heap.size f (ls ++ [q'])) (hty : Ty FoT wr wa) (hb : Below w.heap.size wr wa) (hL : Eo wa w.heap.size (sv L) L.2.1 q'.2.list)
    (hown : wb.ownsRow w.heap.size 42 1 v5 (Ls.length + 1) (Ls.map sv ++ [sv L])) (hg : wa.grownBy wb v.ownBlock) : Stay w wb f (ls ++ [q']) (Ls ++ [L]) v5 := by
  have hrow := own_ty hty (by unfold FoT; decide) h.row
  have ht : Ty (fun t => t = 42) wa wb := Ty.ofGrown hg fun g e => by
    rcases hrow.2 with ⟨rfl, _⟩ | ⟨g', cap, cur, rfl, _, hh, _⟩
    · cases e
    · injection e with e
      subst e
      exact ⟨_, cur, hh, rfl⟩
  have hbb : Below w.heap.size wa wb := grown_below hg (by have := h.below.size; have := hb.size; omega) fun g e => by
    rcases hrow.2 with ⟨rfl, _⟩ | ⟨g', cap, cur, rfl, hB, hh, _⟩
    · cases e
    · injection e with e
      subst e
      exact hB
  refine ⟨hM.ty ht (by decide) (by decide) (by decide), (h.below.trans hb).trans hbb, by simpa using hown, by simp [h.len], fun i M q e1 e2 => ?_⟩
  refine own_ty ht (by decide) ?_
  have hlen := h.len
  by_cases hi : i < ls.length
  · rw [List.getElem?_append_left (by omega)] at e1 e2
    exact own_ty hty (by unfold FoT; decide) (h.each i M q e1 e2)
  · rw [List.getElem?_append_right (by omega)] at e1 e2
    by_cases h0 : i - ls.length = 0
    · rw [h0] at e2
      rw [hlen, h0] at e1
      simp only [List.getElem?_cons_zero, Option.some.injEq] at e1 e2
      subst e1 e2
      exact hL
    · rw [show i - ls.length = (i - ls.length - 1) + 1 by omega] at e2
      simp at e2
set_option maxRecDepth 100000 in
set_option maxHeartbeats 8000000 in
theorem cowStays_walk (S : Option Addr) (sn sc : Nat) (l : List ActV) (w : World) (hl : (Shp.slice actShp 48).R w [.slice S sn sc] l) :
    Calls Try.prog 4 #[.slice S sn sc] w fun e w' => e = .returned (.bool true) ∧ Below w.heap.size w w' := by
  obtain ⟨hn1, hn2, hn3⟩ := acts_len hl
  obtain ⟨i0, hi0, hz0, hz1, hz2⟩ := slice_info
  have Hz := Lib.hid hz2
  clear hz2
  go_enter Try.func4, Try.ntmps4
  go_wp2_with fail
  refine (newF_ w).mono ?_
  rintro e w1 ⟨f, rfl, h1, hb1⟩
  go_wp2_with fail
  refine (alive_ _).mono ?_
  rintro e w2 ⟨rfl, hb2⟩
  have h2 := h1.below hb2
  have hb12 := hb1.trans (hb2.mono hb1.size)
  have hbn : Below w2.heap.size w2 (w2.alloc (.cells #[.slice none 0 0] 42)) := (Below.refl _ _).alloc (Nat.le_refl _) _
  have hrow : Blk (w2.alloc (.cells #[.slice none 0 0] 42)) w2.heap.size 42 #[.slice none 0 0] := Blk.new _ _ _ rfl
  have hstart : Stay w (w2.alloc (.cells #[.slice none 0 0] 42)) f [(none, .nil)] [(none, 0, 0)] (.slice (some ⟨w2.heap.size, 0, none⟩) 1 1) :=
    ⟨h2.below hbn, hb12.trans (hbn.mono hb12.size), ⟨rfl, .inr ⟨w2.heap.size, 1, _, rfl, hb12.size, hrow, Nat.le_refl _, by unfold maxLen; omega, rfl, rfl⟩⟩, rfl, fun i L q e1 e2 => by
      match i, e1, e2 with
      | 0, e1, e2 =>
        simp only [List.getElem?_cons_zero, Option.some.injEq] at e1 e2
        subst e1 e2
        exact eo_nil _ _⟩
  clear h1 hb1 hb2 h2 hb12 hbn hrow
  go_wp2_with fail
  refine (short_ S sn sc hn1 hn2 hn3 _).mono ?_
  rintro e w3 ⟨rfl, rfl⟩
  have hm3 : min sn 300 ≤ 300 := Nat.min_le_right _ _
  have hms : min sn 300 ≤ sn := Nat.min_le_left _ _
  generalize min sn 300 = m at *
  clear hn1 hn2 hn3
  go_wp2_with fail
  generalize (w2.alloc (.cells #[.slice none 0 0] 42)) = w4 at *
  go_loopw [4, 29] (fun lv iv wr => ∃ (k : Nat) (ls : List Root) (Ls : List Row3), k ≤ m ∧ iv = .int .i64 (k : Int) ∧ ls.length ≤ k + 1 ∧ Stay w wr f ls Ls lv) (fun _ iv _ => m - (intOf iv).toNat)
  case atStart => exact ⟨0, _, _, Nat.zero_le _, rfl, by simp, hstart⟩
  case round =>
    obtain ⟨k, ls, Ls, hk, rfl, hls, hS⟩ := hrel
    clear hstart
    have HSl := Lib.hid hS.len
    obtain ⟨AL, cL, rfl, hcl1, hcl2, -⟩ := own_form hS.row
    by_cases hlt : k < m
    · have hil : (k : Int) < (m : Int) := by omega
      obtain ⟨b, o, rfl, kd, r, x, hkd, fr, fx, c0, c1, c2, c3, c4, c5⟩ := acts_later hl hS.below (show k < sn by omega)
      have hact := actA wr kd r x
      have hSa := hS.keep hact
      have hdo := does_ _ w.heap.size f ls hSa.fo hSa.below.size (by omega) kd r x hkd fx
      unfold actC at hdo hSa
      clear hl hact
      go_wp2_with fail
      refine hdo.mono ?_
      intro e w5 hC
      clear hdo
      rcases hC with ⟨hne, rfl, hb5⟩ | ⟨q, q', hq, hok, rfl, hM⟩
      · have hS5 := hSa.keep hb5
        obtain ⟨er, her⟩ : ∃ er, er = chgE (rootAt ls r) (actOk kd x) := ⟨_, rfl⟩
        rw [← her] at hne ⊢
        have hne2 : (er != 0) = true := by simpa using hne
        clear her hS hSa hb5 c0 c1 c2 c3 c4 c5
        go_wp2
        go_roundw
        case rel => exact ⟨k + 1, ls, Ls, by omega, by go_num, by omega, hS5⟩
        case measure => simp [intOf]; omega
      · have h5 := hM.fo
        have hnew := rootAt_new ls q'
        have hb15 := hSa.below.trans hM.below
        have hty5 := hM.ty
        have hbe5 := hM.below
        obtain ⟨-, -, hrt⟩ := h5.trees q' (by simp)
        have hne0 : ((ls.length : Int) != (Ls.length : Int)) = false := by rw [HSl.out]; simp
        have hLs1 : Ls.length ≤ 301 := by have := HSl.out; omega
        clear c0 c1 c2 c3 c4 c5 hM hq hok hS
        go_wp2_with fail
        refine (listF_ w5 w.heap.size f _ h5 (ls.length : Int) q' hnew).mono ?_
        rintro e w6 ⟨A6, m6, c6, rfl, g6, hb6⟩
        have z6 := g6.le
        have e6 := g6.es
        have o6 := g6.own.mono hb15.size
        clear g6
        go_wp2_with fail
        refine (rright_ w6 A6 m6 c6 _ e6 z6).mono ?_
        rw [hrt]
        rintro e w7 ⟨rfl, hb7⟩
        have hb57 := hb6.trans (hb7.mono hb6.size)
        have hb8 : Below w7.heap.size w7 (w7.alloc (.cells #[.slice A6 m6 c6] 42)) := (Below.refl _ _).alloc (Nat.le_refl _) _
        have hb58 := hb57.trans (hb8.mono hb57.size)
        have hF8 := h5.below hb58
        have hty8 := hty5.trans (Ty.ofBelow (T := FoT) hb58)
        have hbe8 := hbe5.trans (hb58.mono hb15.size)
        have o8 := own_keep (own_keep o6 hb7) hb8
        have hr8 := own_ty hty8 (by unfold FoT; decide) hSa.row
        have hbs8 := (hb15.trans (hb58.mono hb15.size)).size
        clear o6 e6 hb6 hb7 h5 hb57 hty5 hbe5
        go_wp2_with (first
          | (at_builtin
             go_must (refine wpList_app _ rfl (.tmp 60) (.tmp 62) _ rfl w.heap.size 42 i0 _ 1 24 Try.underlying29 hi0 hz0 hz1 Hz.out rfl (by decide) (.slice AL Ls.length cL) Ls.length _ rfl hr8 _ 1 1 [sv (A6, m6, c6)] rfl (fun h => by cases h) (Rd.new w7 #[.slice A6 m6 c6] 42 (0, 0) rfl) (fun u hu => by rw [List.mem_singleton.1 hu]; rfl) (by unfold maxLen; omega) (by omega) hbs8 ?_)
             intro v9 w9 hown9 hg9 hat9
             have hS9 := hSa.more (L := (A6, m6, c6)) hF8 hty8 hbe8 o8 hown9 hg9
             obtain ⟨A9, c9, rfl, -, -, -⟩ := own_form hown9)
          | fail)
        have hmax : max (0 : Int) ((ls.length : Int) - 3) = ((ls.length - 3 : Nat) : Int) := by omega
        have hw3 : IntKind.i64.wrap ((ls.length : Int) - 3) = (ls.length : Int) - 3 := by rw [IntKind.wrap_i64]; omega
        clear hown9 hg9 hat9 hr8 o8 hF8 hty8 hbe8 hb58 hb8 hSa hb15 hbs8
        go_loopw [11] (fun jv wx => ∃ j : Nat, j ≤ ls.length ∧ jv = .int .i64 (j : Int) ∧ Stay w wx f (ls ++ [q']) (Ls ++ [(A6, m6, c6)]) (.slice A9 (Ls.length + 1) c9)) (fun jv _ => ls.length - (intOf jv).toNat)
        case atStart => exact ⟨ls.length - 3, by omega, by first | rfl | (simp only [Value.int.injEq, true_and]; omega) | (simp; omega), hS9⟩
        case round =>
          obtain ⟨j, hj, rfl, hX⟩ := hrel
          clear hS9 hmax hw3
          obtain ⟨wx, rfl⟩ : ∃ wx : World, wx = wr := ⟨_, rfl⟩
          by_cases hjl : j < ls.length
          · have hji : (j : Int) < (ls.length : Int) := by omega
            have hjl2 : j < (ls ++ [q']).length := by simp; omega
            obtain ⟨qj, hqj⟩ : ∃ q, (ls ++ [q'])[j]? = some q := ⟨_, List.getElem?_eq_getElem hjl2⟩
            go_wp2_with fail
            refine (listF_ wx w.heap.size f _ hX.fo (j : Int) qj ((rootAt_nat _ _).trans hqj)).mono ?_
            rintro e wy ⟨Ay, my, cy, rfl, gy, hby⟩
            have hY := hX.keep hby
            obtain ⟨bb, Lj, q2, hA, hq2, hcell, hEs, hle, hlen⟩ := hY.at_ hjl2
            rw [hqj] at hq2
            injection hq2 with hq2
            subst hq2
            obtain ⟨La, Lm, Lc⟩ := Lj
            subst hA
            have zy := gy.le
            have ey := gy.es
            have hjI : (j : Int) < ((Ls.length + 1 : Nat) : Int) := by have := HSl.out; omega
            have hjN : j < Ls.length + 1 := by have := HSl.out; omega
            clear hlen gy hX hby
            go_wp2_with fail
            refine (same_ wy Ay La my Lm cy Lc _ ey hEs zy).mono ?_
            rintro e wz ⟨kb, rfl, rfl⟩
            have hZ := hY.keep (below_drewN (Below.refl _ _) kb)
            clear hY ey hEs hcell
            go_wp2
            go_roundw
            case rel => exact ⟨j + 1, by omega, by go_num, hZ⟩
            case measure => simp [intOf]; omega
          · have hji : (ls.length : Int) ≤ (j : Int) := by omega
            go_wp2
            go_roundw
            case rel => exact ⟨k + 1, ls ++ [q'], Ls ++ [(A6, m6, c6)], by omega, by go_num, by simp; omega, hX⟩
            case measure => simp [intOf]; omega
    · have hin : (m : Int) ≤ (k : Int) := by omega
      have hLs1 : Ls.length ≤ 301 := by have := HSl.out; omega
      go_wp2_with fail
      go_loopw [92] (fun jv wx => ∃ j : Nat, j ≤ Ls.length ∧ jv = .int .i64 (j : Int) ∧ Stay w wx f ls Ls (.slice AL Ls.length cL)) (fun jv _ => Ls.length - (intOf jv).toNat)
      case atStart => exact ⟨0, Nat.zero_le _, rfl, hS⟩
      case round =>
        obtain ⟨j, hj, rfl, hX⟩ := hrel
        clear hS
        obtain ⟨wx, rfl⟩ : ∃ wx : World, wx = wr := ⟨_, rfl⟩
        by_cases hjl : j < Ls.length
        · have hji : (j : Int) < (Ls.length : Int) := by omega
          have hjl2 : j < ls.length := by have := HSl.out; omega
          obtain ⟨bb, Lj, qj, hA, hqj, hcell, hEs, hle, hlen⟩ := hX.at_ hjl2
          obtain ⟨La, Lm, Lc⟩ := Lj
          subst hA
          clear hlen
          go_wp2_with fail
          refine (listF_ wx w.heap.size f _ hX.fo (j : Int) qj ((rootAt_nat _ _).trans hqj)).mono ?_
          rintro e wy ⟨Ay, my, cy, rfl, gy, hby⟩
          have hY := hX.keep hby
          have hEy := hEs.below hby
          have zy := gy.le
          have ey := gy.es
          clear gy hX hby hcell hEs
          go_wp2_with fail
          refine (same_ wy Ay La my Lm cy Lc _ ey hEy zy).mono ?_
          rintro e wz ⟨kb, rfl, rfl⟩
          have hZ := hY.keep (below_drewN (Below.refl _ _) kb)
          clear hY ey hEy
          go_wp2
          go_roundw
          case rel => exact ⟨j + 1, by omega, by go_num, hZ⟩
          case measure => simp [intOf]; omega
        · have hji : (Ls.length : Int) ≤ (j : Int) := by omega
          have hbx := hX.below
          clear hX
          go_wp2
          go_ret
          exact ⟨rfl, hbx⟩
set_option maxRecDepth 100000 in
theorem cowStays_lifted (os : Os) (started : os.Started) (H : Type) (enc : TypeId × Value → H) :
    ReturnsInHanded {} Try.checked os 4 .any (Rows.cowStaysSpec.pre6 enc Try.prog Try.f4 Rows.cowStaysRow.domain false) (Rows.cowStaysSpec.post enc Try.prog Try.f4 false true false false) := by
  refine law_lifted (C := Try.checked) (tb := 4) own_ started (by kernel_rfl) Try.func4
    (ChangeSpec.witness6 (enc := enc) (C := Try.checked) false ⟨#[], #[.slice none 0 0], []⟩ 8 (by kernel_rfl) (by kernel_rfl) (by kernel_rfl) (by kernel_rfl))
    rfl rfl Try.underlying4 laidOut_ (by kernel_rfl) (fun ds h => by match ds, h with | [_], _ => rfl) ?_
  intro W base args ds p hval0 hA0 _ hsz0
  have hval : ∀ (j : Nat) t v, Try.f4.params[j]? = some t → args[j]? = some v → Value.okWide Try.prog W .any base t v := hval0
  have hA : DataW.TrodAll enc Try.prog W 0 (fun _ => true) true Try.f4.params.toList args.toList ds p := hA0
  have hsz : (DataW.weightsEach Try.prog Try.f4.params.toList ds).all (· ≤ reachBytes) = true := hsz0
  clear hval0 hA0 hsz0
  rw [Try.params4] at hA hval hsz
  obtain ⟨v0, d0, rfl, rfl, h0⟩ := trodAll_one hA
  obtain ⟨A0, n0, c0, xs0, rfl, r0, b0⟩ := arg_slice ops_acts Try.underlying22 (hval 0 _ v0 rfl rfl) h0 (weight_at hsz (j := 0) rfl rfl)
  exact cowStays_walk A0 n0 c0 xs0 W r0

/-- CowStays, for every input: the statement as it was given. -/
theorem cowStays_holds : Rows.CowStaysSaid :=
  OpenClaim.holds_of_wide 4 Try.f4 rfl rfl rfl rfl rfl rfl rfl ⟨rfl, rfl, rfl, rfl, rfl⟩ rfl rfl rfl rfl rfl (by kernel_rfl) Try.func4 (by kernel_rfl)
    (of_decide_eq_true (by kernel_rfl)) (by unfold Func.isWrapper; first | (rw [if_pos (by decide +kernel)]; kernel_rfl) | (rw [if_neg (by decide +kernel)]; exact ⟨rfl, rfl⟩))
    (fun os started H enc _ => cowStays_lifted os started H enc)
end Go.Proofs.Ytiehhmchokbafaa

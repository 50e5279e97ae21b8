/- StreamCuts: what is encoded is read, however it is cut: whatever the input, the law returns true. No condition. -/
import Derived.Test.YtofoecpnphoohaaStrX
set_option linter.all false
namespace Go.Proofs.Ytofoecpnphoohaa
open Go.ChangeShapes Go.WideShapes Go.ChangeAt Go.RowKit
namespace Str
open Blo (I64)
theorem encL_many (l : List Rec) : l.length ≤ (encL l).length := by
  induction l with
  | nil => simp
  | cons r l ih => rw [encL_cons, List.length_append, recB_length, List.length_cons]; omega
theorem runR_many : ∀ (k : Nat) (b : List UInt8), b.length ≤ k → (runR b).1.length ≤ b.length
  | 0, b, hk => by
    have : b = [] := List.eq_nil_of_length_eq_zero (by omega)
    subst this
    rw [runR_nil]
    simp
  | k + 1, b, hk => by
    cases hg : goes b with
    | false => rw [runR_stops b hg]; simp
    | true =>
      have hgi := (goes_iff b).1 hg
      have hd : (b.drop (8 + numAt b)).length = b.length - (8 + numAt b) := List.length_drop
      have := runR_many k (b.drop (8 + numAt b)) (by omega)
      rw [runR_goes b hg]
      simp only [List.length_cons]
      omega
theorem own_plain {w : World} {base : Nat} {e : TypeId} {size n c : Nat} {A : Option Addr} {xs : List Value} (h : w.ownsRow base e size (.slice A n c) n xs) : ∀ a, A = some a → a.spot = none := by
  intro a ha
  rcases h.2 with ⟨e1, _⟩ | ⟨g, cap, cur, e1, _⟩
  · injection e1 with e1 _ _
    rw [ha] at e1
    cases e1
  · injection e1 with e1 _ _
    rw [ha] at e1
    injection e1 with e1
    rw [e1]
theorem rdo_app {w w' : World} {base br b' n : Nat} {s : Rdr} {v : Value} {xs : List Value} (h : Rdo w base br s) (hO : w.ownsRow b' 39 8 v n xs) (hg : w.grownBy w' v.ownBlock) (hlt : br < b') : Rdo w' base br s := by
  obtain ⟨u, h1, h2, h3⟩ := h
  exact ⟨u, h1.grown hg (fun e => by have := (hO.lt br e.symm).1; omega), own_grown h2 hg (fun k hk e => own_ne hO h2 (by decide) e.symm hk), h3⟩
/-- The parts are fed: what waits, and what is left. -/
structure Cst (w wr : World) (br : Nat) (l : List Rec) (A : Option Addr) (p c : Nat) (lv : Value) (m : Nat) (L : List (Rec × Value)) (j : Nat) (ww vv : List UInt8) : Prop where
  bel : Below w.heap.size w wr
  br1 : w.heap.size ≤ br
  rd : Rdo wr br br ⟨ww, (encL (l.take j)).length, 0, 0⟩
  bs : Bs wr A p vv
  blo : ∀ a, A = some a → a.block < br
  pl : ∀ a, A = some a → a.spot = none
  nil : A = none → p = 0 ∧ c = 0
  le : p ≤ c
  cap : c ≤ 9223372036854775807
  out : Orl wr (br + 1) lv m L
  got : L.map Prod.fst = l.take j
  eq : ww ++ vv = encL (l.drop j)
theorem Cst.many {w wr : World} {br : Nat} {l : List Rec} {A : Option Addr} {p c : Nat} {lv : Value} {m : Nat} {L : List (Rec × Value)} {j : Nat} {ww vv : List UInt8} (h : Cst w wr br l A p c lv m L j ww vv) : m ≤ (encL l).length := by
  have h1 := h.out.len
  have h2 := congrArg List.length h.got
  rw [List.length_map, List.length_take] at h2
  have := encL_many l
  omega
theorem Cst.bytes {w wr : World} {br : Nat} {l : List Rec} {A : Option Addr} {p c : Nat} {lv : Value} {m : Nat} {L : List (Rec × Value)} {j : Nat} {ww vv : List UInt8} (h : Cst w wr br l A p c lv m L j ww vv) : ww.length + p ≤ (encL l).length ∧ (encL (l.take j)).length ≤ (encL l).length := by
  have h1 := h.bs.len
  have h2 := congrArg List.length h.eq
  rw [List.length_append] at h2
  have h3 : encL l = encL (l.take j) ++ encL (l.drop j) := by rw [← encL_append, List.take_append_drop]
  have h4 := congrArg List.length h3
  rw [List.length_append] at h4
  omega
/-- A part more. -/
theorem Cst.part {w wr w6 w7 : World} {br : Nat} {l : List Rec} {A B : Option Addr} {p c d z : Nat} {lv v6 v7 : Value} {m m6 : Nat} {L L6 : List (Rec × Value)} {j : Nat} {ww vv : List UInt8} (h : Cst w wr br l A p c lv m L j ww vv) (hl : AllMay l) (hz : z ≤ p)
    (hO6 : Orl w6 wr.heap.size v6 m6 L6) (hL6 : L6.map Prod.fst = (runR (ww ++ vv.take z)).1) (hr6 : Rdo w6 br br (feedS ⟨ww, (encL (l.take j)).length, 0, 0⟩ (vv.take z))) (hg6 : wr.grownBy w6 (some br))
    (hown : w7.ownsRow (br + 1) 39 8 v7 (m + m6) (rvs L ++ rvs L6)) (hg7 : w6.grownBy w7 lv.ownBlock)
    (hB : Bs wr B (p - z) (vv.drop z)) (hBa : ∀ a, B = some a → a.block < br) (hBp : ∀ a, B = some a → a.spot = none) (hBn : B = none → p - z = 0 ∧ d = 0) (hBl : p - z ≤ d) (hBc : d ≤ 9223372036854775807) :
    ∃ j' ww', Cst w w7 br l B (p - z) d v7 (m + m6) (L ++ L6) j' ww' (vv.drop z) ∧ (z = p → j' = l.length ∧ ww' = []) := by
  have hbl := h.rd.lt
  have h6 : Orl w6 (br + 1) lv m L := h.out.grown hg6 (fun k hk => by injection hk with hk; omega)
  have hlo : ∀ k, lv.ownBlock = some k → br + 1 ≤ k := fun k hk => (h.out.row.lt k hk).1
  have h7 := h6.app hg7 hown (fun q hq => (hO6.data q hq).mono (by omega)) hO6.sm
  have hb7 : Below w.heap.size w w7 := (h.bel.grown hg6 h.bel.size (fun k hk => by injection hk with hk; have := h.br1; omega)).grown hg7 (by have := h.bel.size; have := hg6.size; omega) (fun k hk => by have := hlo k hk; have := h.br1; omega)
  have hbs7 : Bs w7 B (p - z) (vv.drop z) := (hB.grown hg6 (fun a ha e => by injection e with e; have := hBa a ha; omega)).grown hg7 (fun a ha e => by have := hlo _ e.symm; have := hBa a ha; omega)
  have hr7 := rdo_app hr6 h6.row hg7 (Nat.lt_succ_self br)
  by_cases hzp : z = p
  · have htk : vv.take z = vv := List.take_of_length_le (by have := h.bs.len; omega)
    have hdr : vv.drop z = [] := List.drop_of_length_le (by have := h.bs.len; omega)
    have hrun : runR (ww ++ vv.take z) = (l.drop j, [], 0, (encL (l.drop j)).length) := by rw [htk, h.eq, runR_all _ (hl.drop j)]
    have hs : feedS ⟨ww, (encL (l.take j)).length, 0, 0⟩ (vv.take z) = ⟨[], (encL (l.take l.length)).length, 0, 0⟩ := by
      unfold feedS
      dsimp only
      rw [hrun]
      have e : encL l = encL (l.take j) ++ encL (l.drop j) := by rw [← encL_append, List.take_append_drop]
      simp only [if_true, List.take_length, e, List.length_append]
    rw [hs] at hr7
    rw [hrun] at hL6
    refine ⟨l.length, [], ⟨hb7, h.br1, hr7, hbs7, hBa, hBp, hBn, hBl, hBc, h7, ?_, ?_⟩, fun _ => ⟨rfl, rfl⟩⟩
    · rw [List.map_append, h.got, hL6, List.take_append_drop, List.take_length]
    · rw [hdr, List.drop_length]; rfl
  · have he : (ww ++ vv.take z) ++ vv.drop z = encL (l.drop j) := by rw [List.append_assoc, List.take_append_drop, h.eq]
    obtain ⟨i, hi, r1, r2, r3, r4⟩ := runR_cut (l.drop j) (hl.drop j) _ _ he
    have hs : feedS ⟨ww, (encL (l.take j)).length, 0, 0⟩ (vv.take z) = ⟨(runR (ww ++ vv.take z)).2.1, (encL (l.take (j + i))).length, 0, 0⟩ := by
      unfold feedS
      dsimp only
      rw [r3, r4, List.take_add, encL_append, List.length_append]
      simp
    rw [hs] at hr7
    refine ⟨j + i, (runR (ww ++ vv.take z)).2.1, ⟨hb7, h.br1, hr7, hbs7, hBa, hBp, hBn, hBl, hBc, h7, ?_, ?_⟩, fun e => absurd e hzp⟩
    · rw [List.map_append, h.got, hL6, r1, List.take_add]
    · rw [r2, List.drop_drop]
section
variable (w : World)
set_option maxRecDepth 100000 in
set_option maxHeartbeats 8000000 in
theorem streamCuts_walk (A : Option Addr) (n c : Nat) (l : List Rec) (h : Rcl w A n l) (hnc : n ≤ c) (hc : c ≤ 9223372036854775807) (C : Option Addr) (cn cc : Nat) (cuts : List UInt8) (hcu : Bs w C cn cuts) (hcn : cn ≤ cc) (hcc : cc ≤ 9223372036854775807) :
    Calls Try.prog 3 #[.slice A n c, .slice C cn cc] w fun e w' => e = .returned (.bool true) ∧ Below w.heap.size w w' := by
  by_cases hE : encE l = 0
  · have hAM := all_may h hE
    have hlen := (encE_zero hE).2
    obtain ⟨i0, hi0, hz0, hz1, hz2⟩ := rec_info
    have Hz := Lib.hid hz2
    clear hz2
    go_enter Try.func3, Try.ntmps3
    go_wp2_with fail
    refine (enc_ _ A n c l h (by omega)).mono ?_
    rw [hE, encV_ok hE]
    rintro e w4 ⟨v4, rfl, hown4, hb4⟩
    obtain ⟨A4, c4, rfl, hc4, hm4, ha4⟩ := own_form hown4
    unfold maxLen at hm4
    have hlo4 := hown4.lt
    obtain ⟨q, hq⟩ : ∃ q, (encL l).length = q := ⟨_, rfl⟩
    rw [hq] at hown4 hlen hc4 ha4 hlo4 ⊢
    have Hq := Lib.hid hq
    clear hq hE
    go_wp2_with fail
    refine (rnew_ _).mono ?_
    rintro e w5 ⟨rfl, hr5, hb5⟩
    have hC0 : Cst w w5 w4.heap.size l A4 q c4 (.slice none 0 0) 0 [] 0 [] (encL l) :=
      ⟨hb4.trans (hb5.mono hb4.size), hb4.size, hr5, (bs_own hown4).below hb5, fun a ha => by rw [ha] at hlo4; exact (hlo4 a.block rfl).2, own_plain hown4, ha4, hc4, hm4, Orl.nil _ _, rfl, rfl⟩
    obtain ⟨br, hbr⟩ : ∃ br, w4.heap.size = br := ⟨_, rfl⟩
    rw [hbr] at hC0 ⊢
    clear hown4 hb4 hr5 hb5 hlo4 hbr
    go_wp2_with fail
    go_loopw [5, 8, 30] (fun bv lv iv wr => ∃ (i : Nat) (B : Option Addr) (p cp m : Nat) (L : List (Rec × Value)) (j : Nat) (ww vv : List UInt8), i ≤ cn ∧ iv = .int .i64 (i : Int) ∧ bv = .slice B p cp ∧ Cst w wr br l B p cp lv m L j ww vv) (fun _ _ iv _ => cn - (intOf iv).toNat)
    case atStart => exact ⟨0, _, _, _, _, _, _, _, _, Nat.zero_le _, rfl, rfl, hC0⟩
    case round =>
      obtain ⟨i, B, p, cp, m, L, j, ww, vv, hi, rfl, rfl, hC⟩ := hrel
      obtain ⟨hby1, hby2⟩ := hC.bytes
      have hmq := hC.many
      rw [Hq.out] at hby1 hby2 hmq
      obtain ⟨Al, cl, rfl, hcl, hml, hal⟩ := own_form hC.out.row
      by_cases hlt : i < cn
      · have hil : (i : Int) < (cn : Int) := by omega
        have hi0' : (0 : Int) ≤ (i : Int) := by omega
        obtain ⟨cb, co, rfl, hcl2, hcell⟩ := (hcu.below hC.bel).at_ hlt
        obtain ⟨y, hy⟩ : ∃ y : Nat, (cuts[i]'hcl2).toNat = y := ⟨_, rfl⟩
        rw [hy] at hcell
        have hy256 : y < 256 := by rw [← hy]; exact (cuts[i]'hcl2).toNat_lt
        obtain ⟨z, hz⟩ : ∃ z, min y p = z := ⟨_, rfl⟩
        have hzp : z ≤ p := by omega
        have hmin : min (y : Int) (p : Int) = (z : Int) := by omega
        have hz0i : (0 : Int) ≤ (z : Int) := by omega
        have hzpi : (z : Int) ≤ (p : Int) := by omega
        have hpci : (p : Int) ≤ (cp : Int) := by have := hC.le; omega
        have hzci : (z : Int) ≤ (cp : Int) := by omega
        have hzcn : z ≤ cp := by omega
        have hzw : IntKind.i64.wrap (y : Int) = (y : Int) := by rw [IntKind.wrap_i64]; omega
        clear hy hz hcu hC0 h
        go_wp2_with fail
        have hby3 : ww.length + z ≤ 1000000 := by omega
        have hby4 : (encL (l.take j)).length ≤ 1000000000 := by omega
        refine (feed_ _ br br ⟨ww, (encL (l.take j)).length, 0, 0⟩ B z cp (vv.take z) hC.rd ⟨rfl, rfl⟩ (hC.bs.take hzp) hzcn hC.cap hby3 hby4).mono ?_
        rintro e w6 ⟨A6, m6, c6, L6, rfl, hO6, hL6, hr6, hg6⟩
        obtain ⟨_, hc6, hm6, ha6⟩ := hO6.bounds
        have hm6b : m6 ≤ 1000000 := by
          have h1 := hO6.len
          have h2 := congrArg List.length hL6
          have h3 := runR_many _ (ww ++ vv.take z) (Nat.le_refl _)
          have h4 : (vv.take z).length ≤ z := by rw [List.length_take]; omega
          rw [List.length_map] at h2
          rw [List.length_append] at h3
          dsimp only at h2
          omega
        have hbl := hC.rd.lt
        have hO6k : Orl w6 (br + 1) (.slice Al m cl) m L := hC.out.grown hg6 (fun k hk => by injection hk with hk; omega)
        have hsz6 : br + 1 ≤ w6.heap.size := by have := hg6.size; omega
        have hrd6 := rd_own hO6.row
        have hone6 : ∀ u ∈ rvs L6, u.oneCell' = true := rvs_one (fun q hq => by obtain ⟨X, cx, e, _⟩ := rdt_own (hO6.data q hq) (hO6.sm q hq); exact ⟨X, _, cx, e⟩)
        have ha6' : A6 = none → m6 = 0 := fun e => (ha6 e).1
        clear hbl hc6 hm6 ha6
        cases B with
        | none =>
          obtain ⟨rfl, rfl⟩ := hC.nil rfl
          obtain rfl : z = 0 := by omega
          have hB : Bs wr none (0 - 0) (vv.drop 0) := by rw [List.drop_zero]; exact hC.bs
          have hnext := fun (v7 : Value) (w7 : World) (hown7 : w7.ownsRow (br + 1) 39 8 v7 (m + m6) (rvs L ++ rvs L6)) (hg7 : w6.grownBy w7 (Value.slice Al m cl).ownBlock) => hC.part hAM hzp hO6 hL6 hr6 hg6 hown7 hg7 (d := 0) hB (fun a ha => by cases ha) (fun a ha => by cases ha) (fun _ => ⟨rfl, rfl⟩) (show 0 - 0 ≤ 0 by omega) (by omega)
          clear hC hO6 hL6 hr6 hg6
          go_wp2_with (first
            | (at_builtin
               refine wpList_app _ rfl (.tmp 39) (.tmp 44) _ rfl (br + 1) 39 i0 (.agg ra0) 8 80 Try.underlying22 hi0 hz0 hz1 Hz.out rfl (by omega) (.slice Al m cl) m (rvs L) rfl hO6k.row A6 m6 c6 (rvs L6) rfl ha6' hrd6 hone6 (by unfold maxLen; omega) (by omega) hsz6 ?_
               intro v7 w7 hown7 hg7 hat7
               obtain ⟨j7, ww7, hC7, -⟩ := hnext v7 w7 hown7 hg7
               obtain ⟨A7, c7, rfl, hc7, hm7, ha7⟩ := own_form hown7
               clear hnext hown7 hg7 hat7 hO6k hrd6))
          go_roundw
          case rel => exact ⟨i + 1, _, _, _, _, _, j7, ww7, _, by omega, by go_num, rfl, hC7⟩
          case measure => simp [intOf]; omega

        | some ba =>
          obtain ⟨bb, oo, rfl⟩ : ∃ bb oo, ba = ⟨bb, oo, none⟩ := ⟨ba.block, ba.off, by have := hC.pl ba rfl; cases ba; simp_all⟩
          by_cases hcz : cp = z
          · skip
            have hzz : p = z := by have := hC.le; omega
            subst hzz
            subst hcz
            have hB : Bs wr (some ⟨bb, oo, none⟩) (cp - cp) (vv.drop cp) := by rw [Nat.sub_self, List.drop_of_length_le (by have := hC.bs.len; omega)]; exact Bs.nil
            have hblo := hC.blo
            have hnext := fun (v7 : Value) (w7 : World) (hown7 : w7.ownsRow (br + 1) 39 8 v7 (m + m6) (rvs L ++ rvs L6)) (hg7 : w6.grownBy w7 (Value.slice Al m cl).ownBlock) => hC.part hAM (Nat.le_refl _) hO6 hL6 hr6 hg6 hown7 hg7 (d := 0) hB hblo hC.pl (fun e => by cases e) (show cp - cp ≤ 0 by omega) (by omega)
            clear hC hO6 hL6 hr6 hg6
            go_wp2_with (first
              | (at_builtin
                 refine wpList_app _ rfl (.tmp 39) (.tmp 44) _ rfl (br + 1) 39 i0 (.agg ra0) 8 80 Try.underlying22 hi0 hz0 hz1 Hz.out rfl (by omega) (.slice Al m cl) m (rvs L) rfl hO6k.row A6 m6 c6 (rvs L6) rfl ha6' hrd6 hone6 (by unfold maxLen; omega) (by omega) hsz6 ?_
                 intro v7 w7 hown7 hg7 hat7
                 obtain ⟨j7, ww7, hC7, -⟩ := hnext v7 w7 hown7 hg7
                 rw [Nat.sub_self] at hC7
                 obtain ⟨A7, c7, rfl, hc7, hm7, ha7⟩ := own_form hown7
                 clear hnext hown7 hg7 hat7 hO6k hrd6))
            go_roundw
            case rel => exact ⟨i + 1, _, _, _, _, _, j7, ww7, _, by omega, by go_num, rfl, hC7⟩
            case measure => simp [intOf]; omega

          · skip
            have hB : Bs wr (some ⟨bb, oo + z, none⟩) (p - z) (vv.drop z) := by have := hC.bs.drop (k := z) (cap := cp) hzp hC.le; rw [if_neg hcz] at this; simpa [add_plain] using this
            have hblo := hC.blo
            have hle := hC.le
            have hcap := hC.cap
            have hnext := fun (v7 : Value) (w7 : World) (hown7 : w7.ownsRow (br + 1) 39 8 v7 (m + m6) (rvs L ++ rvs L6)) (hg7 : w6.grownBy w7 (Value.slice Al m cl).ownBlock) => hC.part hAM hzp hO6 hL6 hr6 hg6 hown7 hg7 (d := cp - z) hB (fun a ha => by injection ha with ha; subst ha; exact hblo ⟨bb, oo, none⟩ rfl) (fun a ha => by injection ha with ha; subst ha; rfl) (fun e => by cases e) (Nat.sub_le_sub_right hle z) (by omega)
            clear hC hO6 hL6 hr6 hg6
            go_wp2_with (first
              | (at_builtin
                 refine wpList_app _ rfl (.tmp 39) (.tmp 44) _ rfl (br + 1) 39 i0 (.agg ra0) 8 80 Try.underlying22 hi0 hz0 hz1 Hz.out rfl (by omega) (.slice Al m cl) m (rvs L) rfl hO6k.row A6 m6 c6 (rvs L6) rfl ha6' hrd6 hone6 (by unfold maxLen; omega) (by omega) hsz6 ?_
                 intro v7 w7 hown7 hg7 hat7
                 obtain ⟨j7, ww7, hC7, -⟩ := hnext v7 w7 hown7 hg7
                 obtain ⟨A7, c7, rfl, hc7, hm7, ha7⟩ := own_form hown7
                 clear hnext hown7 hg7 hat7 hO6k hrd6))
            go_roundw
            case rel => exact ⟨i + 1, _, _, _, _, _, j7, ww7, _, by omega, by go_num, rfl, hC7⟩
            case measure => simp [intOf]; omega

      · have hin : (cn : Int) ≤ (i : Int) := by omega
        have hby3 : ww.length + p ≤ 1000000 := by omega
        have hby4 : (encL (l.take j)).length ≤ 1000000000 := by omega
        have htk : vv.take p = vv := List.take_of_length_le (by have := hC.bs.len; omega)
        have hdr : vv.drop p = [] := List.drop_of_length_le (by have := hC.bs.len; omega)
        clear hC0 hcu
        go_wp2_with fail
        refine (feed_ _ br br ⟨ww, (encL (l.take j)).length, 0, 0⟩ B p cp vv hC.rd ⟨rfl, rfl⟩ hC.bs hC.le hC.cap hby3 hby4).mono ?_
        rintro e w6 ⟨A6, m6, c6, L6, rfl, hO6, hL6, hr6, hg6⟩
        obtain ⟨_, hc6, hm6, ha6⟩ := hO6.bounds
        have hm6b : m6 ≤ 1000000 := by
          have h1 := hO6.len
          have h2 := congrArg List.length hL6
          have h3 := runR_many _ (ww ++ vv) (Nat.le_refl _)
          have h4 := hC.bs.len
          rw [List.length_map] at h2
          rw [List.length_append] at h3
          dsimp only at h2
          omega
        have hbl := hC.rd.lt
        have hO6k : Orl w6 (br + 1) (.slice Al m cl) m L := hC.out.grown hg6 (fun k hk => by injection hk with hk; omega)
        have hsz6 : br + 1 ≤ w6.heap.size := by have := hg6.size; omega
        have hrd6 := rd_own hO6.row
        have hone6 : ∀ u ∈ rvs L6, u.oneCell' = true := rvs_one (fun q hq => by obtain ⟨X, cx, e, _⟩ := rdt_own (hO6.data q hq) (hO6.sm q hq); exact ⟨X, _, cx, e⟩)
        have ha6' : A6 = none → m6 = 0 := fun e => (ha6 e).1
        have hL6' : L6.map Prod.fst = (runR (ww ++ vv.take p)).1 := by rw [htk]; exact hL6
        have hr6' : Rdo w6 br br (feedS ⟨ww, (encL (l.take j)).length, 0, 0⟩ (vv.take p)) := by rw [htk]; exact hr6
        have hB : Bs wr none (p - p) (vv.drop p) := by rw [hdr, Nat.sub_self]; exact Bs.nil
        clear hbl hc6 hm6 ha6
        have hnext := fun (v7 : Value) (w7 : World) (hown7 : w7.ownsRow (br + 1) 39 8 v7 (m + m6) (rvs L ++ rvs L6)) (hg7 : w6.grownBy w7 (Value.slice Al m cl).ownBlock) => hC.part hAM (Nat.le_refl p) hO6 hL6' hr6' hg6 hown7 hg7 (d := 0) hB (fun a ha => by cases ha) (fun a ha => by cases ha) (fun _ => ⟨Nat.sub_self p, rfl⟩) (show p - p ≤ 0 by omega) (by omega)
        clear hC hO6 hL6 hr6 hg6 hL6' hr6'
        go_wp2_with (first
          | (at_builtin
             refine wpList_app _ rfl (.tmp 50) (.tmp 53) _ rfl (br + 1) 39 i0 (.agg ra0) 8 80 Try.underlying22 hi0 hz0 hz1 Hz.out rfl (by omega) (.slice Al m cl) m (rvs L) rfl hO6k.row A6 m6 c6 (rvs L6) rfl ha6' hrd6 hone6 (by unfold maxLen; omega) (by omega) hsz6 ?_
             intro v7 w7 hown7 hg7 hat7
             obtain ⟨j7, ww7, hC7, hend⟩ := hnext v7 w7 hown7 hg7
             obtain ⟨hj7, hw7⟩ := hend (by trivial)
             subst hj7 hw7
             obtain ⟨A7, c7, rfl, hc7, hm7, ha7⟩ := own_form hown7
             have hgot := hC7.got
             rw [List.take_length] at hgot
             have hK7 := hC7.out.rcl
             rw [hgot] at hK7
             have hR7 := h.below hC7.bel
             have hr7 : Rdo w7 br br (rd0 (encL (l.take l.length)).length) := hC7.rd
             have hB7 := hC7.bel
             clear hnext hown7 hg7 hat7 hO6k hrd6 hC7)
          | (go_at_call 11
             refine (rsame_ _ A7 A (m + m6) n c7 c l l hK7 hR7 (by unfold maxLen at hm7; omega) (by omega)).mono ?_
             rw [decide_eq_true (rfl : l = l)]
             rintro e w8 ⟨rfl, hb8⟩
             have hr8 := hr7.keep hb8
             have hB8 := hB7.trans (hb8.mono hB7.size))
          | (go_at_call 12
             refine (waits0 hr8).mono ?_
             rintro e w9 ⟨rfl, rfl⟩)
          | (go_at_call 13
             refine (fault0 hr8).mono ?_
             rintro e w9 ⟨rfl, hb9⟩
             have hB9 := hB8.trans (hb9.mono hB8.size))
          | (go_at_call 9
             refine (alive_ _).mono ?_
             rintro e w10 ⟨rfl, hb10⟩))
        go_ret
        exact ⟨rfl, hB9.trans (hb10.mono hB9.size)⟩
  · have hV : encV l = [] := by unfold encV; rw [if_neg hE]
    obtain ⟨E, hEE⟩ : ∃ E, encE l = E := ⟨_, rfl⟩
    rw [hEE] at hE
    have HEE := Lib.hid hEE
    clear hEE
    go_enter Try.func3, Try.ntmps3
    go_wp2_with fail
    refine (enc_ _ A n c l h (by omega)).mono ?_
    rw [HEE.out, hV]
    rintro e w4 ⟨v4, rfl, hown4, hb4⟩
    obtain ⟨A4, c4, rfl, hc4, hm4, ha4⟩ := own_form hown4
    have hE2 : (E != 0) = true := by simp [hE]
    go_wp2_with fail
    refine (rnew_ _).mono ?_
    rintro e w5 ⟨rfl, hr5, hb5⟩
    have hB5 := hb4.trans (hb5.mono hb4.size)
    go_wp2_with (first
      | (go_at_call 9
         refine (alive_ _).mono ?_
         rintro e w10 ⟨rfl, hb10⟩))
    go_ret
    exact ⟨rfl, hB5.trans (hb10.mono hB5.size)⟩
end
end Str
open Str

set_option maxRecDepth 100000 in
theorem streamCuts_lifted (os : Os) (started : os.Started) (H : Type) (enc : TypeId × Value → H) :
    ReturnsInHanded {} Try.checked os 3 .any (Rows.streamCutsSpec.pre6 enc Try.prog Try.f3 Rows.streamCutsRow.domain false) (Rows.streamCutsSpec.post enc Try.prog Try.f3 false true false false) := by
  refine law_lifted (C := Try.checked) (tb := 4) own_ started (by kernel_rfl) Try.func3
    (ChangeSpec.witness6 (enc := enc) (C := Try.checked) false ⟨#[], #[.slice none 0 0, .slice none 0 0], []⟩ 8 (by kernel_rfl) (by kernel_rfl) (by kernel_rfl) (by kernel_rfl))
    rfl rfl Try.underlying4 laidOut_ (by kernel_rfl) (fun ds h => by match ds, h with | [_, _], _ => rfl) ?_
  intro W base args ds p hval0 hA0 _ hsz0
  have hval : ∀ (j : Nat) t v, Try.f3.params[j]? = some t → args[j]? = some v → Value.okWide Try.prog W .any base t v := hval0
  have hA : DataW.TrodAll enc Try.prog W 0 (fun _ => true) true Try.f3.params.toList args.toList ds p := hA0
  have hsz : (DataW.weightsEach Try.prog Try.f3.params.toList ds).all (· ≤ reachBytes) = true := hsz0
  clear hval0 hA0 hsz0
  rw [Try.params3] at hA hval hsz
  obtain ⟨v0, v1, d0, d1, p0, p1, rfl, rfl, rfl, h0, h1⟩ := trodAll_two hA
  obtain ⟨A0, n0, c0, xs0, rfl, r0, b0⟩ := arg_slice ops_recs Try.underlying22 (hval 0 _ v0 rfl rfl) h0 (weight_at hsz (j := 0) rfl rfl)
  obtain ⟨A1, n1, c1, xs1, rfl, r1, b1⟩ := arg_slice ops_bytes Try.underlying23 (hval 1 _ v1 rfl rfl) h1 (weight_at hsz (j := 1) rfl rfl)
  obtain ⟨hb1, hn1, ha1, hc1⟩ := bs_shp r1
  obtain ⟨q1, q2, q3⟩ := recs_rcl r0
  exact streamCuts_walk W A0 n0 c0 _ q1 q2 q3 A1 n1 c1 _ hb1 hn1 (by omega)

/-- StreamCuts, for every input: the statement as it was given. -/
theorem streamCuts_holds : Rows.StreamCutsSaid :=
  OpenClaim.holds_of_wide 3 Try.f3 rfl rfl rfl rfl rfl rfl rfl ⟨rfl, rfl, rfl, rfl, rfl⟩ rfl rfl rfl rfl rfl (by kernel_rfl) Try.func3 (by kernel_rfl)
    (of_decide_eq_true (by kernel_rfl)) (by unfold Func.isWrapper; first | (rw [if_pos (by decide +kernel)]; kernel_rfl) | (rw [if_neg (by decide +kernel)]; exact ⟨rfl, rfl⟩))
    (fun os started H enc _ => streamCuts_lifted os started H enc)
end Go.Proofs.Ytofoecpnphoohaa

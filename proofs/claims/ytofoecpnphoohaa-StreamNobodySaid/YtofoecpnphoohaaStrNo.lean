/- StreamNobody: a reader that nobody made reads nothing; records and bytes that were handed in, or read, may be written over: whatever the input, the law returns true. No condition. -/
import Derived.Test.YtofoecpnphoohaaStrX
set_option linter.all false
namespace Go.Proofs.Ytofoecpnphoohaa
open Go.ChangeShapes Go.WideShapes Go.ChangeAt Go.RowKit
namespace Str
open Blo (I64)
abbrev zr : Array Value := #[.bool false, .slice none 0 0, .int .i64 0, .int .i64 0, .int .i64 0]
theorem rcl_one {w : World} {x : Rec} {X : Option Addr} {m c : Nat} (h : Rdt w x X m c) {t : TypeId} {g : Nat} (hg : g = w.heap.size) : Rcl (w.alloc (.cells (ra x (.slice X m c)) t)) (some ⟨g, 0, none⟩) 1 [x] := by
  subst hg
  have hb : Below w.heap.size w (w.alloc (.cells (ra x (.slice X m c)) t)) := (Below.refl _ _).alloc (Nat.le_refl _) _
  have hn := Blk.new w t (ra x (.slice X m c)) rfl
  refine ⟨rfl, fun k hk => ?_⟩
  match k, hk with
  | 0, _ => exact ⟨_, 0, X, m, c, rfl, fun j u hu => hn.cell (by simpa using hu), h.below hb⟩
theorem ns_take {w : World} {A : Option Addr} {n : Nat} {l : List Nat} (h : Ns w A n l) {k : Nat} (hk : k ≤ n) : Ns w A k (l.take k) := by
  refine ⟨?_, fun z hz => h.2 z (List.mem_of_mem_take hz)⟩
  have := h.1.take (k := k) hk
  rw [Nat.mul_one, nvs_take] at this
  exact this
def xrec (d : List Nat) : Rec := ⟨2, 0, 0, 0, 0, 0, 0, d⟩
theorem xrec_may {d : List Nat} (h1 : 1 ≤ d.length) (h2 : d.length ≤ 64) : MayR (xrec d) := by
  have hf : far 0 := ⟨by omega, by omega⟩
  exact ⟨.inr (.inl ⟨rfl, rfl, rfl, rfl, rfl, rfl, h1, h2⟩), hf, hf, hf, hf, hf, hf⟩
theorem xrec_enc {d : List Nat} (h1 : 1 ≤ d.length) (h2 : d.length ≤ 64) : encE [xrec d] = 0 := by
  have hm : mayB (xrec d) = true := decide_eq_true (xrec_may h1 h2)
  unfold encE
  rw [encL_one, recB_length, List.all_cons, List.all_nil, hm]
  have : (xrec d).d.length ≤ 64 := h2
  rw [Bool.true_and, if_pos rfl, if_pos (by omega)]
/-- Cells of one kind, whatever they hold. -/
def Kd (k : IntKind) (ys : List Value) : Prop := ∀ u ∈ ys, ∃ z : Int, u = .int k z
theorem Kd.set {k : IntKind} {ys : List Value} (h : Kd k ys) (i : Nat) (z : Int) : Kd k (ys.set i (.int k z)) := fun u hu => by
  rcases List.mem_or_eq_of_mem_set hu with hu | rfl
  · exact h u hu
  · exact ⟨z, rfl⟩
theorem kd_cell {w : World} {base n c : Nat} {e : TypeId} {A : Option Addr} {ys : List Value} {k : IntKind} (h : w.ownsRow base e 1 (.slice A n c) n ys) (hk : Kd k ys) {i : Nat} (hi : i < n) : ∃ g z, A = some ⟨g, 0, none⟩ ∧ w.cell? ⟨g, i, none⟩ = some (.int k z) ∧ w.frozen? ⟨g, i, none⟩ = false ∧ base ≤ g ∧ g < w.heap.size := by
  obtain ⟨g, cap, cur, e1, hnc, hcm, hb, hblk, hcs, hx⟩ := own_cells h (by omega)
  injection e1 with e1 _ e3
  subst e3
  have hlen := h.1
  rw [Nat.mul_one] at hlen
  obtain ⟨z, hz⟩ := hk ys[i] (List.getElem_mem (by omega))
  refine ⟨g, z, e1, ?_, hblk.free i, hb, hblk.lt⟩
  refine hblk.cell ?_
  have h1 : ys[i]? = some (.int k z) := by rw [List.getElem?_eq_getElem (by omega), hz]
  rw [← hx, List.getElem?_take, if_pos hi] at h1
  simpa using h1
section
variable (w : World)
theorem waits_z (br : Nat) (h : Blk w br 50 zr) : Calls Try.prog 12 #[.pointer (some ⟨br, 0, none⟩)] w fun e w' => e = .returned (.int .i64 0) ∧ w = w' := by
  have c1 := h.cell (j := 1) (u := .slice none 0 0) rfl
  go_enter Try.func12, Try.ntmps12
  go_wp2
  go_ret
  exact ⟨rfl, rfl⟩
set_option maxRecDepth 100000 in
theorem rfault_z (br : Nat) (h : Blk w br 50 zr) : Calls Try.prog 13 #[.pointer (some ⟨br, 0, none⟩)] w fun e w' => e = .returned (.agg #[.int .i64 0, .int .i64 0]) ∧ Below w.heap.size w w' := by
  have hlt := h.lt
  obtain ⟨w1, hw1⟩ : ∃ w1, w.alloc (.cells #[.int .i64 0, .int .i64 0] 34) = w1 := ⟨_, rfl⟩
  have hb1 : Below w.heap.size w w1 := by rw [← hw1]; exact (Below.refl _ _).alloc (Nat.le_refl _) _
  have hn : Blk w1 w.heap.size 34 #[.int .i64 0, .int .i64 0] := by rw [← hw1]; exact Blk.new w _ _ rfl
  have h4 := h.keep hb1
  have c3 := h4.cell (j := 3) (u := .int .i64 0) rfl
  have c4 := h4.cell (j := 4) (u := .int .i64 0) rfl
  have n0 := hn.cell (j := 0) (u := .int .i64 0) rfl
  have n1 := hn.cell (j := 1) (u := .int .i64 0) rfl
  have z := hn.free
  clear h
  go_enter Try.func13, Try.ntmps13
  go_wp2
  refine bodyPost_ret (results_fault rfl rfl ((hn.setCell 0 (.int .i64 0)).setCell 1 (.int .i64 0))) rfl ?_
  exact ⟨rfl, (hb1.setCell (Nat.le_refl _) _).setCell (Nat.le_refl _) _⟩
set_option maxRecDepth 100000 in
set_option maxHeartbeats 8000000 in
theorem streamNobody_walk (A : Option Addr) (n c : Nat) (D : Option Addr) (dn dc : Nat) (data : List Nat) (hd : Ns w D dn data) (hD : D = none → dn = 0 ∧ dc = 0) (hdc : dn ≤ dc) (hdm : dc ≤ 9223372036854775807) :
    Calls Try.prog 6 #[.slice A n c, .slice D dn dc] w fun e w' => e = .returned (.bool true) ∧ Below w.heap.size w w' := by
  obtain ⟨w1, hw1⟩ : ∃ w1, w.alloc (.cells zr 50) = w1 := ⟨_, rfl⟩
  have hs1 : w1.heap.size = w.heap.size + 1 := by rw [← hw1]; simp
  have hb1 : Below w.heap.size w w1 := by rw [← hw1]; exact (Below.refl _ _).alloc (Nat.le_refl _) _
  have hz1 : Blk w1 w.heap.size 50 zr := by rw [← hw1]; exact Blk.new w _ _ rfl
  obtain ⟨w2, hw2⟩ : ∃ w2, w1.alloc (.cells #[.pointer none, .pointer (some ⟨w.heap.size, 0, none⟩)] 27) = w2 := ⟨_, rfl⟩
  have hb2 : Below w.heap.size w w2 := by rw [← hw2]; exact hb1.alloc hb1.size _
  have hz2 : Blk w2 w.heap.size 50 zr := by rw [← hw2]; exact hz1.alloc _
  have hp2 : Blk w2 (w.heap.size + 1) 27 #[.pointer none, .pointer (some ⟨w.heap.size, 0, none⟩)] := by rw [← hw2]; exact Blk.new w1 _ _ hs1.symm
  have hs2 : w2.heap.size = w.heap.size + 2 := by rw [← hw2]; simp [hs1]
  go_enter Try.func6, Try.ntmps6
  go_wp2_with fail
  go_loopw [21] (fun iv wr => ∃ i : Nat, i ≤ 2 ∧ iv = .int .i64 (i : Int) ∧ Below w2.heap.size w2 wr) (fun iv _ => 2 - (intOf iv).toNat)
  case atStart => exact ⟨0, by omega, rfl, Below.refl _ _⟩
  case round =>
    obtain ⟨i, hi, rfl, hb⟩ := hrel
    have hzr := hz2.keep hb
    have hpr := hp2.keep hb
    have p0 := hpr.cell (j := 0) (u := .pointer none) rfl
    have p1 := hpr.cell (j := 1) (u := .pointer (some ⟨w.heap.size, 0, none⟩)) rfl
    have zc := hzr.cell (j := 0) (u := .bool false) rfl
    by_cases h0 : i = 0
    · subst h0
      clear hd hD hdc
      go_wp2_with (first
        | (go_at_call 10
           refine (feed_nil _ A n c).mono ?_
           rintro e w3 ⟨rfl, rfl⟩)
        | (go_at_call 12
           refine (waits_nil _).mono ?_
           rintro e w3 ⟨rfl, rfl⟩)
        | (go_at_call 13
           refine (rfault_nil _).mono ?_
           rintro e w3 ⟨rfl, hb3⟩))
      go_roundw
      case rel => exact ⟨1, by omega, by go_num, below_step hb hb3 (Nat.le_refl _)⟩
      case measure => simp [intOf]
    · by_cases h1 : i = 1
      · subst h1
        clear hd hD hdc
        go_wp2_with (first
          | (go_at_call 10
             refine (feed_none _ w.heap.size A n c zc).mono ?_
             rintro e w3 ⟨rfl, rfl⟩)
          | (go_at_call 12
             refine (waits_z _ w.heap.size hzr).mono ?_
             rintro e w3 ⟨rfl, rfl⟩)
          | (go_at_call 13
             refine (rfault_z _ w.heap.size hzr).mono ?_
             rintro e w3 ⟨rfl, hb3⟩))
        go_roundw
        case rel => exact ⟨2, by omega, by go_num, below_step hb hb3 (Nat.le_refl _)⟩
        case measure => simp [intOf]

      · have h2 : i = 2 := by omega
        subst h2
        have hB := hb2.trans (hb.mono hb2.size)
        clear hz2 hp2 hzr hpr p0 p1 zc hz1 hw1 hw2 hb1 hs1 hb
        obtain ⟨k, hk⟩ : ∃ k, min dn 64 = k := ⟨_, rfl⟩
        have hmin : min (dn : Int) 64 = (k : Int) := by omega
        have hk1 : k ≤ dn := by omega
        have hk2 : k ≤ 64 := by omega
        have hk3 : (0 : Int) ≤ (k : Int) := by omega
        have hk4 : (k : Int) ≤ (dc : Int) := by omega
        have hk5 : k ≤ dc := by omega
        have hk6 : (k : Int) ≤ (dn : Int) := by omega
        have hdk := ns_take hd hk1
        have hdl := Lib.hid hdk.len
        have hDk : D = none → k = 0 := fun e => by have := hD e; omega
        have hDk2 : D = none → k = 0 ∧ dc = 0 := fun e => by have := hD e; omega
        clear hk
        by_cases hk0 : k = 0
        · subst hk0
          go_wp2_with (first
            | (go_at_call 9
               refine (alive_ _).mono ?_
               rintro e w10 ⟨rfl, hb10⟩))
          go_ret
          exact ⟨rfl, hB.trans (hb10.mono hB.size)⟩
        · have hkp : ¬ (k : Int) = 0 := by omega
          obtain ⟨d, hdd⟩ : ∃ d, data.take k = d := ⟨_, rfl⟩
          rw [hdd] at hdk hdl
          clear hdd hd hD
          have hdr := hdk.below hB
          obtain ⟨i0, hi0, hz0, hz1, hz2⟩ := u64_info
          have Hz := Lib.hid hz2
          clear hz2
          go_wp2_with (first
            | (at_builtin
               refine wpList_app _ rfl (.const (.slice none 0 0)) (.tmp 51) _ rfl w.heap.size 52 i0 (.int .u64 0) 1 8 Try.underlying37 hi0 hz0 hz1 Hz.out rfl Nat.one_pos _ 0 [] rfl (own_nil _ _ _ _) D k dc (nvs d) rfl hDk hdr.1 (nvs_one _) (by unfold maxLen; omega) (by omega) hB.size ?_
               intro v3 w3 hown3 hg3 hat3
               have hb3 : Below wr.heap.size wr w3 := grown_none_below hg3
               simp only [Nat.zero_add, List.nil_append] at hown3
               obtain ⟨O, oc, rfl, hoc, hom, hoa⟩ := own_form hown3
               unfold maxLen at hom
               have hB3 := hB.trans (hb3.mono hB.size)
               clear hg3 hat3 hb3 hB hdr)
            | (go_at_call 7
               have hlow : ∀ z ∈ d, z < 18446744073709551616 := hdk.2
               have hx3 : Rdt w3 (xrec d) O k oc := ⟨no_ns hown3 hlow, hoa, hoc, hom, by omega, (xrec_may (by have := hdl.out; omega) (by have := hdl.out; omega)).fit⟩
               have hx4 := hx3.below (w' := w3.alloc (.cells (ra (xrec d) (.slice O k oc)) 39)) ((Below.refl _ _).alloc (Nat.le_refl _) _)
               have hR5 : Rcl ((w3.alloc (.cells (ra (xrec d) (.slice O k oc)) 39)).alloc (.cells (ra (xrec d) (.slice O k oc)) 39)) (some ⟨w3.heap.size + 1, 0, none⟩) 1 [xrec d] := rcl_one hx4 (by simp)
               have hE := xrec_enc (d := d) (by have := hdl.out; omega) (by have := hdl.out; omega)
               refine (enc_ _ (some ⟨w3.heap.size + 1, 0, none⟩) 1 1 [xrec d] hR5 (by omega)).mono ?_
               rw [hE, encV_ok hE, encL_one]
               rintro e w5 ⟨v5, rfl, hown5, hb5⟩))
          have hw3 : w.heap.size ≤ w3.heap.size := hB3.size
          have hba : Below w3.heap.size w3 ((w3.alloc (.cells (ra (xrec d) (.slice O k oc)) 39)).alloc (.cells (ra (xrec d) (.slice O k oc)) 39)) := ((Below.refl _ _).alloc (Nat.le_refl _) _).alloc (by simp) _
          have hb35 : Below w3.heap.size w3 w5 := below_step hba hb5 (Nat.le_refl _)
          have hO5 := own_keep hown3 hb35
          have hB5 := hB3.trans (hb35.mono hB3.size)
          have hc5 := hown5.mono (base' := w3.heap.size) (by simp; omega)
          have hcl5 := hown5.lt
          have hol3 := hown3.lt
          have hm := xrec_may (d := d) (by have := hdl.out; omega) (by have := hdl.out; omega)
          have hlenB := recB_length (xrec d)
          have hdlen : (xrec d).d.length = k := hdl.out.symm
          rw [hdlen] at hlenB
          obtain ⟨bs, hbs⟩ : ∃ bs, recB (xrec d) = bs := ⟨_, rfl⟩
          have Hbs := Lib.hid hbs
          obtain ⟨q, hq⟩ : ∃ q, bs.length = q + 1 := ⟨bs.length - 1, by rw [← hbs]; omega⟩
          have hq1 : q ≤ 600 := by rw [hbs, hq] at hlenB; omega
          rw [hbs] at hc5
          have hc5 := hc5
          rw [hq] at hc5
          rw [hbs, hq] at hown5
          obtain ⟨A5, c5, rfl, hcc5, hcm5, hca5⟩ := own_form hc5
          unfold maxLen at hcm5
          have Hq := Lib.hid hq
          clear hown3 hba hb5 hb35 hB3 hbs hq hx3 hx4 hR5 hE hlenB
          go_wp2_with (first
            | (go_at_call 8
               refine (rnew_ _).mono ?_
               rintro e w6 ⟨rfl, hr6, hb6⟩))
          have hB6 := hB5.trans (hb6.mono hB5.size)
          have hO6 := own_keep hO5 hb6
          have hc6 := own_keep hc5 hb6
          have hbsq := (bs_own hc6).take (k := q) (by omega)
          obtain ⟨br, hbr⟩ : ∃ br, w5.heap.size = br := ⟨_, rfl⟩
          have hB0 : w.heap.size ≤ br := by rw [← hbr]; exact hB5.size
          rw [hbr] at hr6 ⊢
          have hol : ∀ j, (Value.slice O k oc).ownBlock = some j → w.heap.size ≤ j ∧ j < br := fun j hj => by have h1 := hO5.lt j hj; rw [hbr] at h1; exact h1
          have hcl : ∀ j, (Value.slice A5 (q + 1) c5).ownBlock = some j → w.heap.size ≤ j ∧ j < br := fun j hj => by have h1 := hc5.lt j hj; rw [hbr] at h1; exact ⟨Nat.le_trans hw3 h1.1, h1.2⟩
          have hsplit : bs.take q ++ bs.drop q = recB (xrec d) := by rw [List.take_append_drop, Hbs.out]
          have hdne : bs.drop q ≠ [] := by
            intro e
            have := congrArg List.length e
            rw [List.length_drop, Hq.out, List.length_nil] at this
            omega
          obtain ⟨g1, g2⟩ := part_waits (xrec d) hm _ _ hsplit hdne
          have hrun : runR (rn.b ++ bs.take q) = ([], bs.take q, 0, 0) := by rw [List.nil_append, runR_stops _ g1, g2]; rfl
          have hfs : feedS rn (bs.take q) = ⟨bs.take q, 0, 0, 0⟩ := by unfold feedS; dsimp only; rw [hrun]; rfl
          refine (feed_ _ br br rn A5 q c5 (bs.take q) hr6 ⟨rfl, rfl⟩ hbsq (by omega) hcm5 (by simp; omega) (by simp)).mono ?_
          unfold FeA
          rw [hrun, hfs]
          rintro e w7 ⟨A7, m7, c7, L7, rfl, hO7, hL7, hr7, hg7⟩
          have hm7 : m7 = 0 := by rw [hO7.len, ← List.length_map (f := Prod.fst), hL7]; rfl
          subst hm7
          have hB7 : Below w.heap.size w w7 := hB6.grown hg7 hB6.size (fun j hj => by injection hj with hj; have := hB5.size; omega)
          have hO7' := own_grown hO6 hg7 (fun j hj e => by injection e with e; have := hol j hj; omega)
          have hc7 := own_grown hc6 hg7 (fun j hj e => by injection e with e; have := hcl j hj; omega)
          have hq0 : (0 : Int) ≤ (q : Int) := by omega
          have hq2 : (q : Int) < (q : Int) + 1 := by omega
          obtain ⟨cb, co, rfl, hcx, hcell⟩ := (bs_own hc7).at_ (k := q) (by omega)
          have hlast : bs.drop q = [bs[q]] := by
            rw [List.drop_eq_getElem_cons hcx, List.drop_of_length_le (by rw [Hq.out]; exact Nat.le_refl _)]
          have hKd : Kd .u8 (bvs bs) := fun u hu => by obtain ⟨y, _, rfl⟩ := List.mem_map.1 hu; exact ⟨_, rfl⟩
          obtain ⟨ly, hly⟩ : ∃ ly, bs[q] = ly := ⟨_, rfl⟩
          rw [hly] at hcell hlast
          have hlyb := ly.toNat_lt
          clear hB6 hO6 hc6 hbsq hr6 hg7 hO7 hL7 hc5 hO5 hB5 hb6 hown5 hcl5 hol3 hrun hfs hly g1 g2
          go_wp2_with fail
          go_loopw [83] (fun iv wr => ∃ (i : Nat) (ys : List Value), i ≤ q + 1 ∧ iv = .int .i64 (i : Int) ∧ wr.ownsRow w3.heap.size 5 1 (.slice (some ⟨cb, co, none⟩) (q + 1) c5) (q + 1) ys ∧ Kd .u8 ys ∧ Rdo wr br br ⟨bs.take q, 0, 0, 0⟩ ∧ wr.ownsRow w.heap.size 52 1 (.slice O k oc) k (nvs d) ∧ Below w.heap.size w wr ∧ br < wr.heap.size) (fun iv _ => q + 1 - (intOf iv).toNat)
          case atStart => exact ⟨0, _, by omega, rfl, hc7, hKd, hr7, hO7', hB7, hr7.lt⟩
          case round =>
            obtain ⟨i, ys, hi, rfl, hcr, hkr, hrr, hor, hbw, hbrw⟩ := hrel
            by_cases hlt : i < q + 1
            · have hil : (i : Int) < (q : Int) + 1 := by omega
              have hi0' : (0 : Int) ≤ (i : Int) := by omega
              obtain ⟨g, z, eA, kc, kf, kg1, kg2⟩ := kd_cell hcr hkr hlt
              injection eA with eA
              injection eA with e1 e2
              subst e1 e2
              have hcbb : cb < br := (hcl cb rfl).2
              have hob : ∀ j, (Value.slice O k oc).ownBlock = some j → j ≠ cb := fun j hj e => by
                subst e
                exact own_ne hor hcr (by decide) hj rfl
              clear hcell hc7 hr7 hO7' hB7
              go_wp2
              go_roundw
              case rel => exact ⟨i + 1, _, by omega, by go_num, own_set1 hcr i _ hlt, hkr.set i _, hrr.grown (grown_setCell wr ⟨cb, i, none⟩ _) (fun j hj => by injection hj with hj; simp only at hj; omega), own_grown hor (grown_setCell wr ⟨cb, i, none⟩ _) (fun j hj e => by injection e with e; exact hob j hj e), hbw.setCell (p := ⟨cb, i, none⟩) (Nat.le_trans hw3 kg1) _, by simpa [World.setCell] using hbrw⟩
              case measure => simp [intOf]; omega
            · have hin : (q : Int) + 1 ≤ (i : Int) := by omega
              clear hcell hc7 hr7 hO7' hB7
              have hba : Below wr.heap.size wr (wr.alloc (.cells #[.int .u8 (ly.toNat : Int)] 5)) := (Below.refl _ _).alloc (Nat.le_refl _) _
              have hbl : Bs (wr.alloc (.cells #[.int .u8 (ly.toNat : Int)] 5)) (some ⟨wr.heap.size, 0, none⟩) 1 [ly] := Bs.new wr [ly] _ _
              have hrr2 := hrr.keep hba
              have hor2 := own_keep hor hba
              have hbw2 := hbw.trans (hba.mono hbw.size)
              have hall : bs.take q ++ [ly] = encL [xrec d] := by rw [encL_one, Hbs.out, ← hlast, List.take_append_drop]
              have hAM : AllMay [xrec d] := fun r hr => by rw [List.mem_singleton.1 hr]; exact ⟨hm, hdk.2⟩
              have hrun : runR (bs.take q ++ [ly]) = ([xrec d], [], 0, (encL [xrec d]).length) := by rw [hall, runR_all _ hAM]
              have hlt2 : (bs.take q).length + 1 ≤ 1000000 := by rw [List.length_take]; omega
              clear hcr hkr hrr hor hba
              go_wp2_with fail
              refine (feed_ _ br br ⟨bs.take q, 0, 0, 0⟩ (some ⟨wr.heap.size, 0, none⟩) 1 1 [ly] hrr2 ⟨rfl, rfl⟩ hbl (by omega) (by omega) hlt2 (by simp)).mono ?_
              unfold FeA
              dsimp only
              rw [hrun]
              rintro e w8 ⟨A8, m8, c8, L8, rfl, hO8, hL8, hr8, hg8⟩
              have hm8 : m8 = 1 := by rw [hO8.len, ← List.length_map (f := Prod.fst), hL8]; rfl
              subst hm8
              have hB8 : Below w.heap.size w w8 := hbw2.grown hg8 hbw2.size (fun j hj => by injection hj with hj; have := hr8.lt; have h1 := hB0; omega)
              have hor8 := own_grown hor2 hg8 (fun j hj e => by injection e with e; have := hol j hj; omega)
              obtain ⟨b8, hb8⟩ : ∃ b8, (wr.alloc (.cells #[.int .u8 (ly.toNat : Int)] 5)).heap.size = b8 := ⟨_, rfl⟩
              have hbr8 : br < b8 := by rw [← hb8]; simp; omega
              rw [hb8] at hO8
              have hkd8 : Kd .u64 (nvs d) := fun u hu => by obtain ⟨y, _, rfl⟩ := List.mem_map.1 hu; exact ⟨_, rfl⟩
              clear hb8 hrr2 hor2 hbw2 hrun hall hg8 hr8 hbl hbw
              go_wp2_with fail
              obtain ⟨wo, rfl⟩ : ∃ wo : World, wo = wr := ⟨_, rfl⟩
              go_loopw [99] (fun iv wr => ∃ (i : Nat) (ys : List Value), i ≤ k ∧ iv = .int .i64 (i : Int) ∧ wr.ownsRow w.heap.size 52 1 (.slice O k oc) k ys ∧ Kd .u64 ys ∧ Orl wr b8 (.slice A8 1 c8) 1 L8 ∧ Below w.heap.size w wr) (fun iv _ => k - (intOf iv).toNat)
              case atStart => exact ⟨0, _, by omega, rfl, hor8, hkd8, hO8, hB8⟩
              case round =>
                obtain ⟨i, ys, hi, rfl, hox, hkx, hOx, hbx⟩ := hrel
                by_cases hlt : i < k
                · have hil : (i : Int) < (k : Int) := by omega
                  have hi0' : (0 : Int) ≤ (i : Int) := by omega
                  obtain ⟨g, z, rfl, kc, kf, kg1, kg2⟩ := kd_cell hox hkx hlt
                  have hgb : g < br := (hol g rfl).2
                  clear hor8 hO8 hB8
                  go_wp2
                  go_roundw
                  case rel => exact ⟨i + 1, _, by omega, by go_num, own_set1 hox i _ hlt, hkx.set i _, hOx.grown (grown_setCell wr ⟨g, i, none⟩ _) (fun j hj => by injection hj with hj; simp only at hj; omega), hbx.setCell (p := ⟨g, i, none⟩) kg1 _⟩
                  case measure => simp [intOf]; omega
                · have hin : (k : Int) ≤ (i : Int) := by omega
                  have hR := hOx.rcl
                  rw [hL8] at hR
                  obtain ⟨b, o, X, m, cx, x, rfl, hx, hrc, hdx⟩ := hR.at_ (k := 0) (by omega)
                  have hxx : x = xrec d := by simpa using hx.symm
                  subst hxx
                  have x7 := hrc.c7
                  simp only [Nat.zero_mul, Nat.add_zero] at x7
                  have hnx : Ns wr X m d := hdx.ns
                  have hnd := hdk.below hbx
                  have hmx : m ≤ 9223372036854775807 := by have := hdx.le; have := hdx.cap; omega
                  clear hor8 hO8 hB8 hox hkx hOx hR hrc hdx hx hL8
                  go_wp2_with (first
                    | (go_at_call 18
                       refine (Blo.words_ _ X D m k cx dc d d hnx hnd hmx).mono ?_
                       rw [decide_eq_true (rfl : d = d)]
                       rintro e w9 ⟨rfl, kk, rfl⟩)
                    | (go_at_call 9
                       refine (alive_ _).mono ?_
                       rintro e w10 ⟨rfl, hb10⟩))
                  go_ret
                  exact ⟨rfl, hbx.trans ((Blo.below_ofDrewN hb10).mono hbx.size)⟩
end
end Str
open Str

set_option maxRecDepth 100000 in
theorem streamNobody_lifted (os : Os) (started : os.Started) (H : Type) (enc : TypeId × Value → H) :
    ReturnsInHanded {} Try.checked os 6 .any (Rows.streamNobodySpec.pre6 enc Try.prog Try.f6 Rows.streamNobodyRow.domain false) (Rows.streamNobodySpec.post enc Try.prog Try.f6 false true false false) := by
  refine law_lifted (C := Try.checked) (tb := 4) own_ started (by kernel_rfl) Try.func6
    (ChangeSpec.witness6 (enc := enc) (C := Try.checked) false ⟨#[], #[.slice none 0 0, .slice none 0 0], []⟩ 8 (by kernel_rfl) (by kernel_rfl) (by kernel_rfl) (by kernel_rfl))
    rfl rfl Try.underlying4 laidOut_ (by kernel_rfl) (fun ds h => by match ds, h with | [_, _], _ => rfl) ?_
  intro W base args ds p hval0 hA0 _ hsz0
  have hval : ∀ (j : Nat) t v, Try.f6.params[j]? = some t → args[j]? = some v → Value.okWide Try.prog W .any base t v := hval0
  have hA : DataW.TrodAll enc Try.prog W 0 (fun _ => true) true Try.f6.params.toList args.toList ds p := hA0
  have hsz : (DataW.weightsEach Try.prog Try.f6.params.toList ds).all (· ≤ reachBytes) = true := hsz0
  clear hval0 hA0 hsz0
  rw [Try.params6] at hA hval hsz
  obtain ⟨v0, v1, d0, d1, p0, p1, rfl, rfl, rfl, h0, h1⟩ := trodAll_two hA
  obtain ⟨A0, n0, c0, xs0, rfl, r0, b0⟩ := arg_slice ops_bytes Try.underlying23 (hval 0 _ v0 rfl rfl) h0 (weight_at hsz (j := 0) rfl rfl)
  obtain ⟨hb0, hn0, ha0, hc0⟩ := bs_shp r0
  obtain ⟨A1, n1, c1, xs1, rfl, r1, b1⟩ := arg_slice ops_ns Try.underlying37 (hval 1 _ v1 rfl rfl) h1 (weight_at hsz (j := 1) rfl rfl)
  obtain ⟨q1, q2, q3, q4, q5⟩ := ns_of r1
  exact streamNobody_walk W A0 n0 c0 A1 n1 c1 _ q1 q3 q2 q4

/-- StreamNobody, for every input: the statement as it was given. -/
theorem streamNobody_holds : Rows.StreamNobodySaid :=
  OpenClaim.holds_of_wide 6 Try.f6 rfl rfl rfl rfl rfl rfl rfl ⟨rfl, rfl, rfl, rfl, rfl⟩ rfl rfl rfl rfl rfl (by kernel_rfl) Try.func6 (by kernel_rfl)
    (of_decide_eq_true (by kernel_rfl)) (by unfold Func.isWrapper; first | (rw [if_pos (by decide +kernel)]; kernel_rfl) | (rw [if_neg (by decide +kernel)]; exact ⟨rfl, rfl⟩))
    (fun os started H enc _ => streamNobody_lifted os started H enc)
end Go.Proofs.Ytofoecpnphoohaa

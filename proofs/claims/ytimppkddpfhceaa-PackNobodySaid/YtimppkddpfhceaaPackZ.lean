/- Proves PackNobody of layer 2 (numbers and parts), for every input, with no condition: a nil writer has nothing, a reader that nobody made has none and tells its end, bytes may be written over. -/
import Derived.Test.YtimppkddpfhceaaPackL
import Derived.Test.YtimppkddpfhceaaPackN
namespace Go.Proofs.Ytimppkddpfhceaa
open Go.ChangeShapes Go.WideShapes Go.ChangeAt Go.RowKit

theorem nb_get : rGet [] ⟨0, 0, 0⟩ = (0, ⟨0, 3, 0⟩) := by simp [rGet]
theorem nb_part : rPart [] ⟨0, 3, 0⟩ = ([], ⟨0, 3, 0⟩) := by simp [rPart]
theorem nb_int : rInt [] 9 ⟨0, 3, 0⟩ = (0, ⟨0, 3, 0⟩) := by simp [rInt]
/-- A Reader that nobody made. -/
theorem Rs.zero (w : World) {g : Nat} (hg : g = w.heap.size) : Rs (w.alloc (.cells #[.slice none 0 0, .int .i64 0, .int .i64 0, .int .i64 0] 56)) g [] ⟨0, 0, 0⟩ :=
  ⟨none, 0, 0, Blk.new w _ _ hg, Bs.nil, fun a h => (by cases h), fun _ => rfl, Nat.le_refl _, by decide, Nat.zero_le _, fun _ => rfl⟩

/-- A block of bytes that is written over, up to place k. -/
def Over (w9 wr : World) (g n k : Nat) (xs : List UInt8) : Prop :=
  ∃ cur, Blk wr g 5 cur ∧ (∀ (j : Nat), k ≤ j → j < n → cur[j]? = (bvs xs)[j]?) ∧ w9.grownBy wr (some g)
theorem Over.cell {w9 wr : World} {g n k : Nat} {xs : List UInt8} (h : Over w9 wr g n k xs) (hk : k < n) (hn : n = xs.length) : ∃ z : Nat, z < 256 ∧ wr.cell? ⟨g, k, none⟩ = some (.int .u8 (z : Int)) ∧ wr.frozen? ⟨g, k, none⟩ = false := by
  obtain ⟨cur, hb, hc, _⟩ := h
  subst hn
  have h1 := hc k (Nat.le_refl _) hk
  simp only [bvs, List.getElem?_map, List.getElem?_eq_getElem hk, Option.map_some] at h1
  exact ⟨xs[k].toNat, xs[k].toNat_lt, hb.cell h1, hb.free k⟩
theorem Over.step {w9 wr : World} {g n k : Nat} {xs : List UInt8} (h : Over w9 wr g n k xs) (u : Value) : Over w9 (wr.setCell ⟨g, k, none⟩ u) g n (k + 1) xs := by
  obtain ⟨cur, hb, hc, hg⟩ := h
  refine ⟨_, hb.setCell k u, fun j h1 h2 => ?_, hg.trans (grown_setCell wr ⟨g, k, none⟩ u)⟩
  rw [Array.getElem?_setIfInBounds_ne (by omega)]
  exact hc j (by omega) h2

set_option maxRecDepth 100000 in
set_option maxHeartbeats 4000000 in
theorem packNobody_walk (A : Option Addr) (n c nn : Nat) (xs : List UInt8) (w : World) (hx : Bs w A n xs) (hA : A = none → n = 0 ∧ c = 0) (hnc : n ≤ c) (hc : c ≤ 140737488351232) (hnn : nn < 18446744073709551616) :
    Calls Try.prog 7 #[.int .u64 (nn : Int), .slice A n c] w fun e w' => e = .returned (.bool true) ∧ Below w.heap.size w w' := by
  have Hn := Lib.hid hx.len
  go_enter Try.func7, Try.ntmps7
  go_wp2_with fail
  refine (put_nil _ _ _ _).mono ?_
  rintro e w' ⟨rfl, rfl⟩
  go_wp2_with fail
  refine (part_nil _ _ _ _).mono ?_
  rintro e w' ⟨rfl, rfl⟩
  go_wp2_with fail
  refine (bytes_nil _).mono ?_
  rintro e w' ⟨rfl, rfl⟩
  go_wp2_with fail
  have hb1 : Below w.heap.size w ((w.alloc (.cells #[.int .u64 (nn : Int)] 38)).alloc (.cells #[.slice A n c] 30)) := ((Below.refl _ _).alloc (Nat.le_refl _) _).alloc (by simp) _
  have hr1 := Rs.zero ((w.alloc (.cells #[.int .u64 (nn : Int)] 38)).alloc (.cells #[.slice A n c] 30)) (g := w.heap.size + 1 + 1) (by simp)
  have hz1 : ((w.alloc (.cells #[.int .u64 (nn : Int)] 38)).alloc (.cells #[.slice A n c] 30)).heap.size = w.heap.size + 1 + 1 := by simp
  generalize (w.alloc (.cells #[.int .u64 (nn : Int)] 38)).alloc (.cells #[.slice A n c] 30) = w1 at *
  have hb2 := hb1.alloc hb1.size (.cells #[.slice none 0 0, .int .i64 0, .int .i64 0, .int .i64 0] 56)
  have hz2 : (w1.alloc (.cells #[.slice none 0 0, .int .i64 0, .int .i64 0, .int .i64 0] 56)).heap.size = w.heap.size + 1 + 1 + 1 := by simp [hz1]
  generalize w1.alloc (.cells #[.slice none 0 0, .int .i64 0, .int .i64 0, .int .i64 0] 56) = w2 at *
  have hb3 := hb2.alloc hb2.size (.cells #[.pointer none, .pointer (some ⟨w.heap.size + 1 + 1, 0, none⟩)] 36)
  have hr3 := Rs.below hr1 ((Below.refl _ _).alloc (Nat.le_refl _) (.cells #[.pointer none, .pointer (some ⟨w.heap.size + 1 + 1, 0, none⟩)] 36))
  have hk3 := Blk.new w2 36 #[.pointer none, .pointer (some ⟨w.heap.size + 1 + 1, 0, none⟩)] (g := w.heap.size + 1 + 1 + 1) hz2.symm
  generalize w2.alloc (.cells #[.pointer none, .pointer (some ⟨w.heap.size + 1 + 1, 0, none⟩)] 36) = w3 at *
  clear hz2 hb2 hr1 hz1 hb1
  generalize hbr : w.heap.size + 1 + 1 = br at *
  generalize hgr : br + 1 = gr at *
  have hbr1 : w.heap.size ≤ br := by omega
  have hbr2 : br < gr := by omega
  clear hbr hgr
  go_loopw [31] (fun i wr => ∃ k : Nat, k ≤ 2 ∧ i = .int .i64 k ∧ (k ≤ 1 → Rs wr br [] ⟨0, 0, 0⟩) ∧ Blk wr gr 36 #[.pointer none, .pointer (some ⟨br, 0, none⟩)] ∧ Below w.heap.size w wr) (fun i _ => 2 - (intOf i).toNat)
  case atStart => exact ⟨0, by omega, rfl, fun _ => hr3, hk3, hb3⟩
  case round =>
    obtain ⟨k, hk, rfl, hr, hkb, hb⟩ := hrel
    clear hr3 hk3 hb3
    have hkk : k = 0 ∨ k = 1 ∨ k = 2 := by omega
    rcases hkk with rfl | rfl | rfl
    · have hr0 := hr (by omega)
      have c0 := hkb.cell (j := 0) (u := .pointer none) rfl
      clear hr
      go_wp2_with fail
      refine (at_nil _).mono ?_
      rintro e w' ⟨rfl, rfl⟩
      go_wp2_with fail
      refine (rleft_nil _).mono ?_
      rintro e w' ⟨rfl, rfl⟩
      go_wp2_with fail
      refine (get_nil _).mono ?_
      rintro e w' ⟨rfl, rfl⟩
      go_wp2_with fail
      refine (rpart_nil _).mono ?_
      rintro e w' ⟨rfl, rfl⟩
      go_wp2_with fail
      refine (int_nil _ _).mono ?_
      rintro e w' ⟨rfl, rfl⟩
      go_wp2
      go_roundw
      case rel => exact ⟨1, by omega, by go_num, fun _ => hr0, hkb, hb⟩
      case measure => simp [intOf]
    · have hr0 := hr (by omega)
      have c0 := hkb.cell (j := 1) (u := .pointer (some ⟨br, 0, none⟩)) rfl
      clear hr
      go_wp2_with fail
      refine (at_ br [] _ _ hr0).mono ?_
      rintro e w' ⟨rfl, rfl⟩
      go_wp2_with fail
      refine (rleft_ br [] _ _ hr0).mono ?_
      rintro e w' ⟨rfl, q, rfl⟩
      go_wp2_with fail
      refine (get_ br [] _ _ (Rr.drewN hr0 q) (by decide)).mono ?_
      rw [nb_get]
      rintro e w4 ⟨rfl, hr4, hg4⟩
      have hb4 := hb.trans (wr_base (grown_of_drewN hg4) hbr1 (Rr.lt hr0))
      have hk4 := hkb.grown (grown_of_drewN hg4) (by intro e; injection e with e; omega)
      clear hr0 hg4 hb hkb c0
      go_wp2_with fail
      refine (rpart_ br [] _ _ hr4 (by decide)).mono ?_
      rw [nb_part]
      rintro e w5 ⟨v5, rfl, hown5, hr5, hg5⟩
      obtain ⟨A5, c5, rfl, hc5, hm5, ha5⟩ := own_form hown5
      have hb5 := hb4.trans (wr_base hg5 hbr1 (Rr.lt hr4))
      have hk5 := hk4.grown hg5 (by intro e; injection e with e; omega)
      clear hr4 hg5 hb4 hk4 hown5 hm5
      go_wp2_with fail
      refine (int_ br [] _ 9 _ hr5 (by decide) (by decide)).mono ?_
      rw [nb_int]
      rintro e w6 ⟨rfl, hr6, hg6⟩
      have hb6 := hb5.trans (wr_base hg6 hbr1 (Rr.lt hr5))
      have hk6 := hk5.grown hg6 (by intro e; injection e with e; omega)
      go_wp2
      go_roundw
      case rel => exact ⟨2, by omega, by go_num, fun h => by omega, hk6, hb6⟩
      case measure => simp [intOf]
    · clear hr hkb
      go_wp2_with fail
      have hr0 := Rs.zero wr (g := wr.heap.size) rfl
      have hb0 := hb.alloc hb.size (.cells #[.slice none 0 0, .int .i64 0, .int .i64 0, .int .i64 0] 56)
      have hbv := hb.size
      refine (get_ wr.heap.size [] _ _ hr0 (by decide)).mono ?_
      rw [nb_get]
      rintro e w4 ⟨rfl, hr4, hg4⟩
      have hb4 := hb0.trans (wr_base hg4 hbv (Rr.lt hr0))
      clear hr0 hb0 hg4
      go_wp2_with fail
      refine (fault_ _ [] _ _ hr4).mono ?_
      rintro e w5 ⟨rfl, hb5⟩
      have hB5 : Below w.heap.size w w5 := hb4.trans (hb5.mono hb4.size)
      clear hr4 hb4 hb5 hb hbr1 hbr2
      obtain ⟨i0, hi0, hz0, hz1, hz2⟩ := info_parts info_u8
      have Hz := Lib.hid hz2
      clear hz2
      have hx5 := (hx.below hB5).alloc (.cells #[.pointer none, .int .i64 0] 26)
      have hw6 := Wr.new w5 rfl
      have hb6 := hB5.alloc hB5.size (.cells #[.pointer none, .int .i64 0] 26)
      have hz6 : (w5.alloc (.cells #[.pointer none, .int .i64 0] 26)).heap.size = w5.heap.size + 1 := by simp
      have hbx : w.heap.size ≤ w5.heap.size := hB5.size
      go_wp2_with (first
        | (at_builtin
           refine wpList_app _ rfl (.const (.slice none 0 0)) (.tmp 64) _ rfl (w5.heap.size + 1) 5 i0 (.int .u8 0) 1 1 Try.underlying30 hi0 hz0 hz1 Hz.out rfl Nat.one_pos (.slice none 0 0) 0 [] rfl (own_nil _ _ _ _) _ n c _ rfl (fun h => (hA h).1) hx5 (bvs_one _) (by unfold maxLen; omega) (by omega) (Nat.le_of_eq hz6.symm) ?_
           intro v7 w7 hown7 hg7 hat7
           rw [Nat.zero_add, List.nil_append] at hown7
           obtain ⟨A7, c7, rfl, hc7, hm7, ha7⟩ := own_form hown7)
        | fail)
      have hb7 : Below w.heap.size w w7 := hb6.trans ((grown_none_below hg7).mono hb6.size)
      have hw7 : Wr3 w7 w5.heap.size w7.heap.size [] := (Wr.below hw6 (grown_none_below hg7)).base _
      have hl7 : w5.heap.size < w7.heap.size := hw7.lt
      have hs7 := bs_own hown7
      have hxl : xs.length ≤ 140737488351232 := by have := Hn.out; omega
      have hpl : (partsBytes [xs]).length = 8 + xs.length := by simp [partsBytes, partBytes_length]
      unfold maxLen at hm7
      clear hw6 hb6 hz6 hx5 hB5 hg7 hat7
      go_wp2_with fail
      refine (part3_ w5.heap.size w7.heap.size [] _ 1 1 [xs] _ (hw7.below ((Below.refl _ _).alloc (Nat.le_refl _) _)) hl7 (by simp) (Bss.row1 rfl hs7 hc7 (by omega)) (by decide) (by decide) (by rw [hpl]; simp; omega)).mono ?_
      rintro e w8 ⟨rfl, hw8, hg8⟩
      rw [List.nil_append] at hw8
      have ho8 := (hown7.alloc (.cells #[.slice A7 n c7] 30)).kept hg8 (by
        cases hq : (Value.slice A7 n c7).ownBlock with
        | none => exact .inl rfl
        | some g => right; intro e; injection e with e; have := (hown7.lt g hq).1; omega)
      have hb8 : Below w.heap.size w w8 := (hb7.alloc hb7.size _).trans (wr_base hg8 hbx (by simp; omega))
      have hk7 : ∀ g, (Value.slice A7 n c7).ownBlock = some g → w5.heap.size < g ∧ g < w7.heap.size := fun g hq => by have := hown7.lt g hq; omega
      generalize partsBytes [xs] = X at *
      have hX : X.length ≤ 140737488351300 := by omega
      clear hown7 hw7 hs7 hg8 hpl
      go_wp2_with fail
      refine (bytes3_ w5.heap.size w7.heap.size X _ hw8 (by omega)).mono ?_
      rintro e w9 ⟨rfl, hk9, hb9⟩
      have hw9 := hw8.below hb9
      have ho9 := own_keep ho8 hb9
      have hB9 : Below w.heap.size w w9 := hb8.trans (hb9.mono hb8.size)
      have k1 := run_str (bs_blk hk9) (by simp) 30 9 5 Try.underlying30 Try.underlying5 Try.underlying9 X.length
      clear hw8 ho8 hb8 hb9 hk9 hb7
      have hov : 0 < n → ∃ g, A7 = some ⟨g, 0, none⟩ ∧ w5.heap.size < g ∧ g < w7.heap.size ∧ Over w9 w9 g n 0 xs := fun h0 => by
        rcases ho9.2 with ⟨h1, h2⟩ | ⟨g, cap, cur, hv, hg, hh, h1, h2, h3, h4⟩
        · injection h1 with _ h1 _; omega
        · injection hv with hA _ _
          have := hk7 g (by rw [hA]; rfl)
          refine ⟨g, hA, this.1, this.2, cur, hh, fun j _ hj => ?_, World.grownBy.refl _ _⟩
          rw [← h4, List.getElem?_take, if_pos (by omega)]
          simp
      clear ho9 hk7
      go_wp2_with fail
      obtain ⟨wo, rfl⟩ : ∃ wo : World, wo = wr := ⟨_, rfl⟩
      go_loopw [73] (fun i wr => ∃ k : Nat, k ≤ n ∧ i = .int .i64 k ∧ Wr3 wr w5.heap.size w7.heap.size X ∧ Below w.heap.size w wr ∧ (k < n → ∃ g, A7 = some ⟨g, 0, none⟩ ∧ w5.heap.size < g ∧ g < w7.heap.size ∧ Over w9 wr g n k xs)) (fun i _ => n - (intOf i).toNat)
      case atStart => exact ⟨0, Nat.zero_le _, rfl, hw9, hB9, hov⟩
      case round =>
        obtain ⟨k, hk, rfl, hwk, hBk, hok⟩ := hrel
        clear hw9 hB9 hov k1
        by_cases hlt : k < n
        · obtain ⟨g, rfl, hg1, hg2, hov⟩ := hok hlt
          obtain ⟨z, hz, c0, f0⟩ := hov.cell hlt Hn.out
          have hbg : w.heap.size ≤ g := by omega
          have hgl := cell_lt c0
          clear hok
          go_wp2_with fail
          go_roundw
          case rel => exact ⟨k + 1, by omega, by go_num, hwk.grown (grown_setCell _ _ _) (fun j e => by injection e with e; simp only at e; omega), hBk.setCell hbg _, fun _ => ⟨g, rfl, hg1, hg2, hov.step _⟩⟩
          case measure => simp [intOf]; omega
        · clear hok
          go_wp2_with fail
          refine (bytes3_ w5.heap.size w7.heap.size X _ hwk (by omega)).mono ?_
          rintro e w11 ⟨rfl, hk11, hb11⟩
          have hB11 : Below w.heap.size w w11 := hBk.trans (hb11.mono hBk.size)
          have hgy : w.heap.size ≤ wr.heap.size := hBk.size
          have hov : Over w11 w11 wr.heap.size X.length 0 X := ⟨_, hk11, fun j _ hj => by simp, World.grownBy.refl _ _⟩
          clear hk11
          obtain ⟨wS, rfl⟩ : ∃ wS : World, wS = wr := ⟨_, rfl⟩
          go_wp2_with fail
          go_loopw [86] (fun i wr => ∃ j : Nat, j ≤ X.length ∧ i = .int .i64 j ∧ Below wS.heap.size wS wr ∧ Over w11 wr wS.heap.size X.length j X) (fun i _ => X.length - (intOf i).toNat)
          case atStart => exact ⟨0, Nat.zero_le _, rfl, hb11, hov⟩
          case round =>
            obtain ⟨j, hj, rfl, hbj, hovj⟩ := hrel
            clear hov hb11 hB11
            by_cases hlt2 : j < X.length
            · obtain ⟨z, hz, c0, f0⟩ := hovj.cell hlt2 rfl
              have hgl := cell_lt c0
              go_wp2_with fail
              go_roundw
              case rel => exact ⟨j + 1, by omega, by go_num, hbj.setCell (Nat.le_refl _) _, hovj.step _⟩
              case measure => simp [intOf]; omega
            · have hwj := hwk.below hbj
              have hBj : Below w.heap.size w wr := hBk.trans (hbj.mono hgy)
              clear hovj hbj hwk hBk hk
              go_wp2_with fail
              refine (bytes3_ w5.heap.size w7.heap.size X _ hwj (by omega)).mono ?_
              rintro e w12 ⟨rfl, hk12, hb12⟩
              have hB12 : Below w.heap.size w w12 := hBj.trans (hb12.mono hBj.size)
              have k2 := run_str (bs_blk hk12) (by simp) 30 9 5 Try.underlying30 Try.underlying5 Try.underlying9 X.length
              clear hk12 hb12 hwj hBj
              go_wp2_with (refine (alive_ _).mono ?_; rintro e w13 ⟨rfl, hb13⟩)
              go_ret
              exact ⟨rfl, below_step hB12 hb13 (Nat.le_refl _)⟩

theorem packNobody_lifted (os : Os) (started : os.Started) (H : Type) (enc : TypeId × Value → H) :
    ReturnsInHanded {} Try.checked os 7 .any (Rows.packNobodySpec.pre6 enc Try.prog Try.f7 Rows.packNobodyRow.domain false) (Rows.packNobodySpec.post enc Try.prog Try.f7 false true false false) := by
  refine law_lifted (C := Try.checked) (tb := 4) own_ started (by kernel_rfl) Try.func7
    (ChangeSpec.witness6 (enc := enc) (C := Try.checked) false ⟨#[], #[.int .u64 0, .slice none 0 0], []⟩ 8 (by kernel_rfl) (by kernel_rfl) (by kernel_rfl) (by kernel_rfl))
    rfl rfl Try.underlying4 laidOut_ (by kernel_rfl) (fun ds h => by match ds, h with | [_, _], _ => rfl) ?_
  intro W base args ds p hval0 hA0 _ hsz0
  have hval : ∀ (j : Nat) t v, Try.f7.params[j]? = some t → args[j]? = some v → Value.okWide Try.prog W .any base t v := hval0
  have hA : DataW.TrodAll enc Try.prog W 0 (fun _ => true) true Try.f7.params.toList args.toList ds p := hA0
  have hsz : (DataW.weightsEach Try.prog Try.f7.params.toList ds).all (· ≤ reachBytes) = true := hsz0
  clear hval0 hA0 hsz0
  rw [Try.params7] at hA hval hsz
  obtain ⟨v0, v1, d0, d1, p0, p1, rfl, rfl, rfl, h0, h1⟩ := trodAll_two hA
  obtain ⟨k0, rfl, hz0⟩ := arg_nat _ Try.underlying38 (hval 0 _ v0 rfl rfl) h0 wf_u64
  obtain ⟨A1, n1, c1, xs1, rfl, r1, b1⟩ := arg_slice ops_bytes Try.underlying30 (hval 1 _ v1 rfl rfl) h1 (weight_at hsz (j := 1) rfl rfl)
  obtain ⟨hb1, hn1, ha1, hc1⟩ := bs_shp r1
  exact packNobody_walk A1 n1 c1 k0 xs1 W hb1 ha1 hn1 hc1 hz0

/-- PackNobody, for every input: the statement as it was given. -/
theorem packNobody_holds : Rows.PackNobodySaid :=
  OpenClaim.holds_of_wide 7 Try.f7 rfl rfl rfl rfl rfl rfl rfl ⟨rfl, rfl, rfl, rfl, rfl⟩ rfl rfl rfl rfl rfl (by kernel_rfl) Try.func7 (by kernel_rfl)
    (of_decide_eq_true (by kernel_rfl)) (by unfold Func.isWrapper; first | (rw [if_pos (by decide +kernel)]; kernel_rfl) | (rw [if_neg (by decide +kernel)]; exact ⟨rfl, rfl⟩))
    (fun os started H enc _ => packNobody_lifted os started H enc)
end Go.Proofs.Ytimppkddpfhceaa

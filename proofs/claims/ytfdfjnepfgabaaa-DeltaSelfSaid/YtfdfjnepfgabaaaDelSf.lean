/- DeltaSelf: a list has grown from itself, and nothing of it is young since its youngest generation: for every input. -/
import Derived.Test.YtfdfjnepfgabaaaDelMk
set_option linter.all false
namespace Go.Proofs.Ytfdfjnepfgabaaa
open Go.ChangeShapes Go.WideShapes Go.ChangeAt Go.RowKit

/-- The youngest Birth, from y on. -/
def youngest (y : Int) : List Ext → Int
  | [] => y
  | x :: l => youngest (max y x.birth) l
theorem youngest_le : ∀ (l : List Ext) (y : Int), y ≤ youngest y l ∧ ∀ x ∈ l, x.birth ≤ youngest y l
  | [], y => ⟨Int.le_refl _, by simp⟩
  | x :: l, y => by
    obtain ⟨h1, h2⟩ := youngest_le l (max y x.birth)
    refine ⟨by unfold youngest; omega, fun z hz => ?_⟩
    unfold youngest
    rcases List.mem_cons.1 hz with rfl | hz
    · omega
    · exact h2 z hz
theorem self_runs {l : List Ext} {gen : Int} (h : ∀ x ∈ l, x.birth ≤ gen) : runsTo (youngF l l gen) 1024 = [] := runs_nil fun i _ => young_self h i
theorem self_gr {l : List Ext} (h : rightB l = true) (gen : Int) : grB l l gen = true := grB_iff.2 ⟨h, h, grown_refl l gen⟩
set_option maxRecDepth 100000 in
set_option maxHeartbeats 2000000 in
theorem deltaSelf_walk (w : World) (A : Option Addr) (n c : Nat) (l : List Ext) (h : Es w A n l) (hn : n ≤ 9223372036854775807) (gen : Int) (hz : I64 gen) (U : Option Addr) (k dd : Nat) (u : List Nat) (hu : Ns w U k u) (hk : k ≤ 9223372036854775807) :
    Calls Try.prog 8 #[.slice A n c, .int .i64 gen, .slice U k dd] w fun e w' => e = .returned (.bool true) ∧ Below w.heap.size w w' := by
  have Hl := Lib.hid h.len
  go_enter Try.func8, Try.ntmps8
  go_wp2_with fail
  refine (rright_ _ A n c l h hn).mono ?_
  cases hr : rightB l with
  | false =>
    have Hg := Lib.hid (show grB l l gen = false by unfold grB; rw [hr]; rfl)
    rintro e w2 ⟨rfl, hb2⟩
    go_wp2_with fail
    refine (Grown_ _ A A n c n c l l gen (h.below hb2) (h.below hb2) hn hn).mono ?_
    rw [Hg.out]
    rintro e w3 ⟨rfl, hb3⟩
    have hB3 := below_step hb2 hb3 (Nat.le_refl _)
    go_wp2_with fail
    refine (alive9_ _).mono ?_
    rintro e w4 ⟨rfl, hb4⟩
    go_wp2
    go_ret
    exact ⟨rfl, below_step hB3 hb4 (Nat.le_refl _)⟩
  | true =>
    rintro e w2 ⟨rfl, hb2⟩
    have hml := mays_right hr
    have Hop := Lib.hid (op_ok hr hr (youngest 0 l) u)
    have Hyo := Lib.hid (show yoL l l (youngest 0 l) = [] by unfold yoL; rw [hr]; exact self_runs (youngest_le l 0).2)
    have Hde := Lib.hid (show shortS (deltaM l l (youngest 0 l) u) 1024 = [] from delta_self (youngest_le l 0).2 u)
    have Hgr := Lib.hid (self_gr hr gen)
    go_wp2_with fail
    go_loopw [7, 27] (fun yv iv wr => ∃ (i : Nat) (y : Int), i ≤ n ∧ iv = .int .i64 (i : Int) ∧ yv = .int .i64 y ∧ (0 ≤ y ∧ y ≤ 1099511627776) ∧ Hid (youngest y (l.drop i) = youngest 0 l) ∧ Below w.heap.size w wr) (fun _ iv _ => n - (intOf iv).toNat)
    case atStart => exact ⟨0, 0, Nat.zero_le _, rfl, rfl, by omega, Lib.hid rfl, hb2⟩
    case round =>
      obtain ⟨i, y, hi, rfl, rfl, hy, hyd, hb⟩ := hrel
      by_cases hlt : i < n
      · have hil : (i : Int) < (n : Int) := by omega
        have hi0 : (0 : Int) ≤ (i : Int) := by omega
        obtain ⟨b, o, rfl, x, hx, fx, c0, c1, c2, c3⟩ := (h.below hb).at_ hlt
        have hxl := may_len (hml x (List.mem_of_getElem? hx))
        have Hyn := Lib.hid (show youngest (max y x.birth) (l.drop (i + 1)) = youngest 0 l by rw [← hyd.out, drop_of hx]; rfl)
        have hbx := hb.alloc hb.size (.cells #[.int .i64 x.off, .int .i64 x.len, .int .i64 x.phys, .int .i64 x.birth] 57)
        have hmx : 0 ≤ max y x.birth ∧ max y x.birth ≤ 1099511627776 := by omega
        clear hx hyd hxl
        go_wp2
        go_roundw
        case rel => exact ⟨i + 1, max y x.birth, by omega, by go_num, rfl, hmx, Hyn, hbx⟩
        case measure => simp [intOf]; omega
      · have hin : (n : Int) ≤ (i : Int) := by omega
        have Hye := Lib.hid (show y = youngest 0 l by rw [← hyd.out, List.drop_of_length_le (by have := Hl.out; omega)]; rfl)
        rw [← Hye.out] at Hop Hyo Hde
        clear hyd
        go_wp2_with fail
        refine (Young_ _ A A n c n c l l y (h.below hb) (h.below hb) hn hn).mono ?_
        rw [Hop.out.1, Hyo.out]
        rintro e w3 ⟨A3, m3, c3, rfl, hP3, hb3⟩
        have hm3 : m3 = 0 := po_len hP3
        subst hm3
        have hB3 := below_step hb hb3 (Nat.le_refl _)
        clear hb3 hP3
        go_wp2_with fail
        refine (Ops_ _ A A n c n c l l y U k dd u (h.below hB3) (h.below hB3) hn hn (hu.below hB3) hk).mono ?_
        rw [Hop.out.1, Hop.out.2, Hde.out]
        rintro e w4 ⟨A4, m4, c4, rfl, hG4, hb4⟩
        have hm4 : m4 = 0 := hG4.len
        subst hm4
        have hB4 := below_step hB3 hb4 (Nat.le_refl _)
        clear hb4 hB3 hG4
        go_wp2_with fail
        refine (Grown_ _ A A n c n c l l gen (h.below hB4) (h.below hB4) hn hn).mono ?_
        rw [Hgr.out]
        rintro e w5 ⟨rfl, hb5⟩
        have hB5 := below_step hB4 hb5 (Nat.le_refl _)
        clear hb5 hB4
        go_wp2_with fail
        refine (alive9_ _).mono ?_
        rintro e w6 ⟨rfl, hb6⟩
        go_wp2
        go_ret
        exact ⟨rfl, below_step hB5 hb6 (Nat.le_refl _)⟩

set_option maxRecDepth 100000 in
theorem deltaSelf_lifted (os : Os) (started : os.Started) (H : Type) (enc : TypeId × Value → H) :
    ReturnsInHanded {} Try.checked os 8 .any (Rows.deltaSelfSpec.pre6 enc Try.prog Try.f8 Rows.deltaSelfRow.domain false) (Rows.deltaSelfSpec.post enc Try.prog Try.f8 false true false false) := by
  refine law_lifted (C := Try.checked) (tb := 4) own_ started (by kernel_rfl) Try.func8
    (ChangeSpec.witness6 (enc := enc) (C := Try.checked) false ⟨#[], #[.slice none 0 0, .int .i64 0, .slice none 0 0], []⟩ 8 (by kernel_rfl) (by kernel_rfl) (by kernel_rfl) (by kernel_rfl))
    rfl rfl Try.underlying4 laidOut_ (by kernel_rfl) (fun ds h => by match ds, h with | [_, _, _], _ => rfl) ?_
  intro W base args ds p hval0 hA0 _ hsz0
  have hval : ∀ (j : Nat) t v, Try.f8.params[j]? = some t → args[j]? = some v → Value.okWide Try.prog W .any base t v := hval0
  have hA : DataW.TrodAll enc Try.prog W 0 (fun _ => true) true Try.f8.params.toList args.toList ds p := hA0
  have hsz : (DataW.weightsEach Try.prog Try.f8.params.toList ds).all (· ≤ reachBytes) = true := hsz0
  clear hval0 hA0 hsz0
  rw [Try.params8] at hA hval hsz
  obtain ⟨v0, v1, v2, d0, d1, d2, p0, p1, p2, rfl, rfl, rfl, h0, h1, h2⟩ := trodAll_three hA
  obtain ⟨A0, n0, c0, xs0, rfl, r0, b0⟩ := arg_slice ops_exts Try.underlying22 (hval 0 _ v0 rfl rfl) h0 (weight_at hsz (j := 0) rfl rfl)
  obtain ⟨z1, rfl, hz1⟩ := arg_int _ _ Try.underlying3 (hval 1 _ v1 rfl rfl) h1 wf_i64
  obtain ⟨A2, n2, c2, xs2, rfl, r2, b2⟩ := arg_slice Blo.ops_ns Try.underlying23 (hval 2 _ v2 rfl rfl) h2 (weight_at hsz (j := 2) rfl rfl)
  obtain ⟨q1, q2⟩ := esU r0
  obtain ⟨p1, p2⟩ := nsU r2
  exact deltaSelf_walk W A0 n0 c0 _ q1 q2 z1 hz1 A2 n2 c2 _ p1 p2

/-- DeltaSelf, for every input: the statement as it was given. -/
theorem deltaSelf_holds : Rows.DeltaSelfSaid :=
  OpenClaim.holds_of_wide 8 Try.f8 rfl rfl rfl rfl rfl rfl rfl ⟨rfl, rfl, rfl, rfl, rfl⟩ rfl rfl rfl rfl rfl (by kernel_rfl) Try.func8 (by kernel_rfl)
    (of_decide_eq_true (by kernel_rfl)) (by unfold Func.isWrapper; first | (rw [if_pos (by decide +kernel)]; kernel_rfl) | (rw [if_neg (by decide +kernel)]; exact ⟨rfl, rfl⟩))
    (fun os started H enc _ => deltaSelf_lifted os started H enc)
end Go.Proofs.Ytfdfjnepfgabaaa

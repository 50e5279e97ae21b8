/- Proves PackOne of layer 2 (numbers and parts), where what it reads is of bulk at most 1048576: bytes that are read as parts, to the end, are those that are put for them. -/
import Derived.Test.YtimppkddpfhceaaPackL
import Derived.Test.YtimppkddpfhceaaPackN
namespace Go.Proofs.Ytimppkddpfhceaa
open Go.ChangeShapes Go.WideShapes Go.ChangeAt Go.RowKit

theorem Rr.grownR {w w' : World} {br : Nat} {xs : List UInt8} {p e f : Nat} {row : Option Nat} (h : Rr w br xs p e f) (hg : w.grownBy w' row) (hb : ∀ g, row = some g → br < g) : Rr w' br xs p e f := by
  cases row with
  | none => exact h.below (grown_none_below hg)
  | some g => exact h.grown hg (hb g rfl)
/-- Cells that are slices of bytes, in blocks other than br and ob. -/
def PartsIn (w : World) (br : Nat) (ob : Option Nat) (cells : List Value) (parts : List (List UInt8)) : Prop :=
  cells.length = parts.length ∧ ∀ (i : Nat) (h : i < parts.length), ∃ A n c, cells[i]? = some (.slice A n c) ∧ n ≤ c ∧ c ≤ 9223372036854775807 ∧ Bs w A n parts[i] ∧ ∀ a, A = some a → a.block < w.heap.size ∧ a.block ≠ br ∧ ob ≠ some a.block
theorem PartsIn.keep {w w' : World} {br : Nat} {ob ob' row : Option Nat} {cells : List Value} {parts : List (List UInt8)} (h : PartsIn w br ob cells parts) (hg : w.grownBy w' row) (hrow : row = some br ∨ row = ob ∨ row = none)
    (hob : ob' = ob ∨ ∃ g, ob' = some g ∧ w.heap.size ≤ g) : PartsIn w' br ob' cells parts :=
  ⟨h.1, fun i hi => by
    obtain ⟨A, n, c, h1, h2, h3, h4, h5⟩ := h.2 i hi
    refine ⟨A, n, c, h1, h2, h3, h4.grown hg (fun a ha => ?_), fun a ha => ?_⟩
    · obtain ⟨q1, q2, q3⟩ := h5 a ha
      rcases hrow with rfl | rfl | rfl
      · intro e; injection e with e; exact q2 e
      · exact fun e => q3 e.symm
      · simp
    · obtain ⟨q1, q2, q3⟩ := h5 a ha
      refine ⟨Nat.lt_of_lt_of_le q1 hg.size, q2, ?_⟩
      rcases hob with rfl | ⟨g, rfl, hlt⟩
      · exact q3
      · intro e; injection e with e; omega⟩
theorem PartsIn.snoc {w : World} {br : Nat} {ob : Option Nat} {cells : List Value} {parts : List (List UInt8)} (h : PartsIn w br ob cells parts) {A : Option Addr} {n c : Nat} {p : List UInt8} (h2 : n ≤ c) (h3 : c ≤ 9223372036854775807) (h4 : Bs w A n p)
    (h5 : ∀ a, A = some a → a.block < w.heap.size ∧ a.block ≠ br ∧ ob ≠ some a.block) : PartsIn w br ob (cells ++ [.slice A n c]) (parts ++ [p]) :=
  ⟨by simp [h.1], fun i hi => by
    by_cases hlt : i < parts.length
    · obtain ⟨A', n', c', q1, q⟩ := h.2 i hlt
      rw [List.getElem_append_left hlt]
      exact ⟨A', n', c', by rw [List.getElem?_append_left (by rw [h.1]; exact hlt)]; exact q1, q⟩
    · have e : i = parts.length := by simp at hi; omega
      subst e
      exact ⟨A, n, c, by rw [← h.1]; simp, h2, h3, by simpa using h4, h5⟩⟩
theorem PartsIn.bss {w : World} {br : Nat} {ob : Option Nat} {cells : List Value} {parts : List (List UInt8)} (h : PartsIn w br ob cells parts) {base : Nat} {t : TypeId} {A : Option Addr} {k c : Nat} (hown : w.ownsRow base t 1 (.slice A k c) k cells) : Bss w A k parts := by
  have hr := rd_own hown
  refine ⟨by have := hr.1; have := h.1; omega, fun j hj => ?_⟩
  obtain ⟨A', n', c', q1, q2, q3, q4, _⟩ := h.2 j hj
  obtain ⟨b, o, rfl, hc⟩ := hr.2 j _ q1
  exact ⟨b, o, A', n', c', rfl, hc, q2, q3, q4⟩
theorem PartsIn.nil {w : World} {br : Nat} {ob : Option Nat} : PartsIn w br ob [] [] := ⟨rfl, fun i h => by simp at h⟩

theorem info_bs : (Try.prog.info? 30).map (fun i => (i.zero, i.size, i.bytes)) = some (some (.slice none 0 0), 1, 24) := by kernel_rfl

/-- What holds at each round's head. -/
def OneInv (w : World) (br : Nat) (xs : List UInt8) (v : Value) (wr : World) (k : Nat) (cells : List Value) (parts : List (List UInt8)) (s : RS) : Prop :=
  wr.ownsRow w.heap.size 30 1 v k cells ∧ PartsIn wr br v.ownBlock cells parts ∧ Rs wr br xs s ∧ Below w.heap.size w wr ∧ (s.e = 0 → partsBytes parts = xs.take s.p ∧ 8 * k ≤ s.p) ∧ 8 * k ≤ s.p + 8 ∧ s.p ≤ xs.length ∧ k = parts.length ∧ ∀ g, v.ownBlock = some g → br < g

set_option maxRecDepth 100000 in
set_option maxHeartbeats 2000000 in
theorem packOne_walk (A : Option Addr) (n c : Nat) (xs : List UInt8) (w : World) (hx : Bs w A n xs) (hA : A = none → n = 0 ∧ c = 0) (hnc : n ≤ c) (hc : c ≤ 140737488351232) (hxl : xs.length ≤ 1048576) :
    Calls Try.prog 5 #[.slice A n c] w fun e w' => e = .returned (.bool true) ∧ Below w.heap.size w w' := by
  obtain ⟨i0, hi0, hz0, hz1, hz2⟩ := info_parts info_bs
  have Hz := Lib.hid hz2
  have Hn := Lib.hid hx.len
  clear hz2
  go_enter Try.func5, Try.ntmps5
  go_wp2_with fail
  refine (new_ _ _ _ xs _ hx hA hnc (by omega) (by have := Hn.out; omega)).mono ?_
  rintro e w1 ⟨br, rfl, hbr, hr1, hb1⟩
  go_wp2_with fail
  go_loopw [4] (fun v wr => ∃ (k : Nat) (cells : List Value) (parts : List (List UInt8)) (s : RS), OneInv w br xs v wr k cells parts s) (fun v _ => match v with | .slice _ k _ => n + 2 - k | _ => 0)
  case atStart => exact ⟨0, [], [], ⟨0, 0, 0⟩, own_nil _ _ _ _, PartsIn.nil, hr1, hb1, fun _ => ⟨by simp [partsBytes], by simp⟩, by simp, by simp, rfl, fun g e => by simp [Value.ownBlock] at e⟩
  case round =>
    obtain ⟨k, cells, parts, s, hown, hpi, hr, hb, hpb, hk8, hp, hkl, hob⟩ := hrel
    obtain ⟨A', c', rfl, hc', hm', ha'⟩ := own_form hown
    clear hr1 hb1
    have Hkl := Lib.hid hkl
    clear hkl
    unfold maxLen at hm'
    by_cases hpl : s.p < xs.length
    · have t0 : (0 : Int) < (xs.length : Int) - s.p := by omega
      by_cases he : s.e = 0
      · have hf : s.f = 0 := Rr.none_f hr he
        obtain ⟨p, e0, f0⟩ := s
        simp only at he hf
        subst he hf
        go_wp2_with fail
        refine (rleft_ br xs _ _ hr).mono ?_
        rintro e w2 ⟨rfl, q, rfl⟩
        go_wp2_with fail
        refine (fault_ br xs _ _ (Rr.drewN hr q)).mono ?_
        rintro e w3 ⟨rfl, hb3⟩
        have hb3' : Below wr.heap.size wr w3 := ⟨hb3.os, hb3.tape, hb3.output, hb3.size, hb3.block⟩
        have hr3 : Rs w3 br xs ⟨p, 0, 0⟩ := Rs.below hr hb3'
        have ho3 := own_keep hown hb3'
        have hp3 := hpi.keep (below_grown hb3' none) (.inr (.inr rfl)) (.inl rfl)
        have hB3 : Below w.heap.size w w3 := hb.trans (hb3'.mono hb.size)
        clear hr hown hpi hb3 hb3'
        go_wp2_with fail
        refine (rpart_ br xs _ _ hr3 (by omega)).mono ?_
        rintro e w4 ⟨v4, rfl, hown4, hr4, hg4⟩
        have hp4 := hp3.keep hg4 (.inl rfl) (.inl rfl)
        have ho4 : w4.ownsRow w.heap.size 30 1 (.slice A' k c') k cells := ho3.kept hg4 (.inr fun e => by have := hob _ e; omega)
        have hB4 : Below w.heap.size w w4 := hB3.trans (wr_base hg4 hbr (Rr.lt hr3))
        obtain ⟨Ap, cp, rfl, hcp, hmp, hap⟩ := own_form hown4
        have hsp := bs_own hown4
        have hone := Lib.hid (fun h2 => rPart_one xs ⟨p, 0, 0⟩ rfl h2)
        have hplc := rPart_place xs ⟨p, 0, 0⟩ hp
        have hlt4 := hown4.lt
        have hl3 := Rr.lt hr3
        have hk3 : ∀ j, (Value.slice A' k c').ownBlock = some j → j < w3.heap.size := fun j hj => (ho3.lt j hj).2
        unfold maxLen at hmp
        generalize hR : rPart xs ⟨p, 0, 0⟩ = R at *
        obtain ⟨np, s'⟩ := R
        have HR := Lib.hid hR
        clear hR hr3 hp3 ho3 hB3 hown4
        simp only at hsp hr4 hplc hcp hlt4
        generalize hnl : np.length = m at *
        have Hnl := Lib.hid hnl
        clear hnl
        have hkb : 8 * k ≤ p := (hpb trivial).2
        have Hpb := Lib.hid (hpb trivial).1
        clear hpb
        go_wp2_with (first
          | (at_builtin
             refine wpList_app _ rfl (.tmp 19) (.tmp 22) _ rfl w.heap.size 30 i0 (.slice none 0 0) 1 24 Try.underlying23 hi0 hz0 hz1 Hz.out rfl Nat.one_pos (.slice A' k c') k cells rfl (ho4.alloc _) _ 1 1 [.slice Ap m cp] rfl (by simp) (Rd.new w4 #[.slice Ap m cp] 30 (0, 0) (sz := 1) (n := 1) rfl) (by simp [Value.oneCell']) (by unfold maxLen; omega) (by omega) (by have := hB4.size; simp; omega) ?_
             intro v5 w5 hown5 hg5 hat5))
        have hsv : np.length = m := Hnl.out
        have hpa : ∀ a, Ap = some a → a.block < w4.heap.size ∧ a.block ≠ br ∧ (Value.slice A' k c').ownBlock ≠ some a.block := fun a ha => by
          obtain ⟨h1, h2⟩ := hlt4 a.block (by rw [ha]; rfl)
          exact ⟨h2, by omega, fun e => by have := hk3 _ e; omega⟩
        have hp5 := ((hp4.snoc (n := m) (c := cp) hcp (by omega) hsp hpa).keep (World.grownBy_alloc w4 (.cells #[.slice Ap m cp] 30) none) (.inr (.inr rfl)) (.inl rfl)).keep hg5 (.inr (.inl rfl)) (hat5.imp id fun e => ⟨_, e, Nat.le_refl _⟩)
        have hr5 : Rs w5 br xs s' := by
          exact Rr.grownR (Rs.below hr4 ((Below.refl _ _).alloc (Nat.le_refl _) _)) hg5 hob
        have hB5 : Below w.heap.size w w5 := ((hB4.alloc hB4.size _).grown hg5 (by have := hB4.size; simp; omega) (fun j hj => (ho4.lt j hj).1))
        have hob5 : ∀ g, v5.ownBlock = some g → br < g := fun g e => by
          rcases hat5 with h | h
          · exact hob g (by rw [← h]; exact e)
          · rw [h] at e; injection e with e; have := Rr.lt hr4; simp at e; omega
        obtain ⟨A5, c5, rfl, hc5, hm5, ha5⟩ := own_form hown5
        have hinv : OneInv w br xs (.slice A5 (k + 1) c5) w5 (k + 1) (cells ++ [.slice Ap m cp]) (parts ++ [np]) s' := by
          refine ⟨hown5, hp5, hr5, hB5, fun h0 => ?_, by omega, hplc.2, by rw [List.length_append, ← Hkl.out]; rfl, hob5⟩
          obtain ⟨q1, q2⟩ := hone.out h0
          exact ⟨by rw [partsBytes_snoc, Hpb.out, q1], by omega⟩
        clear hp4 ho4 hr4 hB4 hown5 hp5 hr5 hB5 hob5 hone hsp
        go_roundw
        case rel => exact ⟨k + 1, cells ++ [.slice Ap m cp], parts ++ [np], s', hinv⟩
        case measure => simp only; have := Hn.out; omega
      · go_wp2_with fail
        refine (rleft_ br xs _ _ hr).mono ?_
        rintro e w2 ⟨rfl, q, rfl⟩
        go_wp2_with fail
        refine (fault_ br xs _ _ (Rr.drewN hr q)).mono ?_
        rintro e w3 ⟨rfl, hb3⟩
        have hb3' : Below wr.heap.size wr w3 := ⟨hb3.os, hb3.tape, hb3.output, hb3.size, hb3.block⟩
        have hr3 : Rs w3 br xs s := Rs.below hr hb3'
        have hB3 : Below w.heap.size w w3 := hb.trans (hb3'.mono hb.size)
        have t1 : ((s.e : Int) == 0) = false := by simpa using he
        have t2 : ((s.e : Int) != 0) = true := by simpa using he
        clear hr hown hpi hb3 hb3' he
        go_wp2_with fail
        refine (fault_ br xs _ _ hr3).mono ?_
        rintro e w4 ⟨rfl, hb4⟩
        have hB4 : Below w.heap.size w w4 := hB3.trans (hb4.mono hB3.size)
        go_wp2_with (refine (alive_ _).mono ?_; rintro e w8 ⟨rfl, hb8⟩)
        go_ret
        exact ⟨rfl, below_step hB4 hb8 (Nat.le_refl _)⟩
    · have t0 : ¬ (0 : Int) < (xs.length : Int) - s.p := by omega
      go_wp2_with fail
      refine (rleft_ br xs _ _ hr).mono ?_
      rintro e w2 ⟨rfl, q, rfl⟩
      by_cases he : s.e = 0
      · have hf : s.f = 0 := Rr.none_f hr he
        obtain ⟨p, e0, f0⟩ := s
        simp only at he hf
        subst he hf
        have Hpb := Lib.hid (show partsBytes parts = xs by rw [(hpb rfl).1]; exact List.take_of_length_le (by simp only at hpl; omega))
        have hbs := hpi.bss hown
        clear hown hpi hpb
        go_wp2_with fail
        refine (fault_ br xs _ _ (Rr.drewN hr q)).mono ?_
        rintro e w3 ⟨rfl, hb3⟩
        have hb3' : Below wr.heap.size wr w3 := ⟨hb3.os, hb3.tape, hb3.output, hb3.size, hb3.block⟩
        have hB3 : Below w.heap.size w w3 := hb.trans (hb3'.mono hb.size)
        have hbs3 := hbs.below hb3'
        clear hr hb3 hb3' hbs
        go_wp2_with fail
        refine (part_ w3.heap.size [] _ _ _ parts _ (Wr.new w3 rfl) (hbs3.alloc _) hc' (by omega) (by rw [Hpb.out]; simp; omega)).mono ?_
        rintro e w4 ⟨rfl, hw4, hg4⟩
        rw [List.nil_append, Hpb.out] at hw4
        have hB4 : Below w.heap.size w w4 := (hB3.alloc hB3.size _).trans (wr_base hg4 hB3.size (by simp))
        clear hbs3 hg4
        go_wp2_with fail
        refine (bytes_ w3.heap.size xs _ hw4 (by omega)).mono ?_
        rintro e w5 ⟨rfl, hk5, hb5⟩
        have hB5 : Below w.heap.size w w5 := hB4.trans (hb5.mono hB4.size)
        have hs5 := bs_blk hk5
        have hxs := hx.below hB5
        have hq : (xs == xs) = true := by simp
        clear hk5 hw4 hb5
        go_wp2_with fail
        refine (same_ _ _ _ _ _ _ _ _ _ hs5 hxs (by simp) hxs.zero).mono ?_
        rintro e w' ⟨rfl, rfl⟩
        rw [hq]
        clear hs5 hxs
        go_wp2_with (refine (alive_ _).mono ?_; rintro e w8 ⟨rfl, hb8⟩)
        go_ret
        exact ⟨rfl, below_step hB5 hb8 (Nat.le_refl _)⟩
      · have t1 : ((s.e : Int) == 0) = false := by simpa using he
        have t2 : ((s.e : Int) != 0) = true := by simpa using he
        clear hown hpi he
        go_wp2_with fail
        refine (fault_ br xs _ _ (Rr.drewN hr q)).mono ?_
        rintro e w3 ⟨rfl, hb3⟩
        have hb3' : Below wr.heap.size wr w3 := ⟨hb3.os, hb3.tape, hb3.output, hb3.size, hb3.block⟩
        have hB3 : Below w.heap.size w w3 := hb.trans (hb3'.mono hb.size)
        go_wp2_with (refine (alive_ _).mono ?_; rintro e w8 ⟨rfl, hb8⟩)
        go_ret
        exact ⟨rfl, below_step hB3 hb8 (Nat.le_refl _)⟩

set_option maxRecDepth 100000 in
theorem packOne_lifted (os : Os) (started : os.Started) (H : Type) (enc : TypeId × Value → H) (F : Stop.Interp) :
    ReturnsInHanded {} Try.checked os 5 .any ((Rows.OpenSpec.upto Rows.packOneSpec).pre6 enc Try.prog Try.f5 Rows.packOneUptoRow.domain false) (((Rows.OpenSpec.upto Rows.packOneSpec).at F).post enc Try.prog Try.f5 false true false false) := by
  refine law_upto (C := Try.checked) (tb := 4) own_ started (by kernel_rfl) Try.func5
    (OpenSpec.witness (enc := enc) (C := Try.checked) (s := Rows.OpenSpec.upto Rows.packOneSpec) (k := Rows.uptoSmall) rfl false ⟨#[], #[.slice none 0 0], []⟩ 8 (by kernel_rfl) (by kernel_rfl) (by kernel_rfl) (x := ([.nil], [], [])) (by kernel_rfl) rfl (by kernel_rfl))
    rfl rfl Try.underlying4 laidOut_ (by kernel_rfl) (fun ds h => by match ds, h with | [_], _ => rfl) ?_
  intro W base args ds p hval0 hA0 _ hsz0 hbulk
  have hval : ∀ (j : Nat) t v, Try.f5.params[j]? = some t → args[j]? = some v → Value.okWide Try.prog W .any base t v := hval0
  have hA : DataW.TrodAll enc Try.prog W 0 (fun _ => true) true Try.f5.params.toList args.toList ds p := hA0
  have hsz : (DataW.weightsEach Try.prog Try.f5.params.toList ds).all (· ≤ reachBytes) = true := hsz0
  clear hval0 hA0 hsz0
  rw [Try.params5] at hA hval hsz
  obtain ⟨v0, d0, rfl, rfl, h0⟩ := trodAll_one hA
  have hB : Rows.uptoBulk d0 ≤ 1048576 := by simp only [Rows.uptoBulkAll] at hbulk; omega
  obtain ⟨A0, n0, c0, xs0, rfl, r0, b0⟩ := arg_slice ops_bytes Try.underlying30 (hval 0 _ v0 rfl rfl) h0 (weight_at hsz (j := 0) rfl rfl)
  obtain ⟨hb0, hn0, ha0, hc0⟩ := bs_shp r0
  exact packOne_walk A0 n0 c0 xs0 W hb0 ha0 hn0 hc0 (by have := bulks_u8 xs0; omega)

/-- PackOne, where what it reads is of bulk at most 1048576: the statement as it was given. -/
theorem packOne_holds : Rows.PackOneUptoSaid :=
  OpenClaim.holds_of_cond 5 Try.f5 rfl rfl rfl rfl rfl rfl rfl ⟨rfl, rfl, rfl, rfl, rfl⟩ rfl rfl rfl rfl rfl (by kernel_rfl) Try.func5 (by kernel_rfl)
    (of_decide_eq_true (by kernel_rfl)) (by unfold Func.isWrapper; first | (rw [if_pos (by decide +kernel)]; kernel_rfl) | (rw [if_neg (by decide +kernel)]; exact ⟨rfl, rfl⟩))
    (fun os started H enc _ F => packOne_lifted os started H enc F)
end Go.Proofs.Ytimppkddpfhceaa

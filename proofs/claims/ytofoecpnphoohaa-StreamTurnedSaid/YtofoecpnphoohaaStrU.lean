/- Layer 10: Build. -/
import Derived.Test.YtofoecpnphoohaaStrT
set_option linter.all false
namespace Go.Proofs.Ytofoecpnphoohaa
open Go.RowKit
namespace Str
open Blo (I64)
def tailR (n : Nat) : Rec := ⟨4, 0, 0, 0, 0, 0, (n : Int), []⟩
def bareR (h : Rec) : Rec := { h with d := [] }
def bldL (h : Rec) (ops : List BOp) : List Rec := bareR h :: (ops.map recOp ++ [tailR ops.length])
def bldE (h : Rec) (ops : List BOp) : Int := if h.k = 1 then (if mayB h = true then chkE (bldL h ops) else 1) else 1
/-- What Build answers. -/
def BuA (w w' : World) (e : Ending) (er : Int) (l : List Rec) : Prop :=
  ∃ (B : Option Addr) (m c : Nat) (L : List (Rec × Value)), e = .returned (.tuple #[.slice B m c, .int .i64 er]) ∧ Orl w' w.heap.size (.slice B m c) m L ∧ L.map Prod.fst = l ∧ Below w.heap.size w w'
def bldV (h : Rec) (ops : List BOp) : List Rec := if bldE h ops = 0 then bldL h ops else []
def BuB (w w' : World) (e : Ending) (h : Rec) (ops : List BOp) : Prop := BuA w w' e (bldE h ops) (bldV h ops)
theorem recOp_sm {w : World} {o : BOp} {X : Option Addr} {m c : Nat} (h : Blo.Dat w o X m c) : Sm (recOp o) := by
  have hz : ∀ z : Int, 0 ≤ z → z ≤ 3 → I64 z := fun z h0 h1 => by unfold I64; omega
  refine ⟨⟨?_, hz 0 (by omega) (by omega), hz 0 (by omega) (by omega), hz 0 (by omega) (by omega), hz 0 (by omega) (by omega), h.fit.off, h.fit.len⟩, h.ns.2, ?_⟩
  · unfold recOp
    dsimp only
    split
    · exact hz 2 (by omega) (by omega)
    · split
      · exact hz 3 (by omega) (by omega)
      · exact hz 0 (by omega) (by omega)
  · have h1 := h.by8
    have h2 := h.len
    unfold recOp
    dsimp only
    omega
theorem bare_sm {h : Rec} (hf : FitR h) : Sm (bareR h) := ⟨⟨hf.k, hf.sh, hf.sn, hf.ba, hf.ma, hf.off, hf.len⟩, by intro x hx; simp [bareR] at hx, by simp [bareR]⟩
theorem tail_sm {n : Nat} (hn : n ≤ 2000000) : Sm (tailR n) := by
  have hz : ∀ z : Int, 0 ≤ z → z ≤ 2000000 → I64 z := fun z h0 h1 => by unfold I64; omega
  exact ⟨⟨hz 4 (by omega) (by omega), hz 0 (by omega) (by omega), hz 0 (by omega) (by omega), hz 0 (by omega) (by omega), hz 0 (by omega) (by omega), hz 0 (by omega) (by omega), hz (n : Int) (by omega) (by omega)⟩, by intro x hx; simp [tailR] at hx, by simp [tailR]⟩
section
variable (w : World)
set_option maxRecDepth 100000 in
set_option maxHeartbeats 8000000 in
theorem build_ (h : Rec) (X : Option Addr) (m c : Nat) (hd : Rdt w h X m c) (A : Option Addr) (n d : Nat) (ops : List BOp) (ho : Blo.Opl w A n ops) (hn : n ≤ 2000000) :
    Calls Try.prog 15 #[.agg (ra h (.slice X m c)), .slice A n d] w fun e w' => BuB w w' e h ops := by
  have Hn := Lib.hid ho.len
  obtain ⟨w1, hw1⟩ : ∃ w1, w.alloc (.cells (ra h (.slice X m c)) 39) = w1 := ⟨_, rfl⟩
  have hs1 : w1.heap.size = w.heap.size + 1 := by rw [← hw1]; simp
  have hb1 : Below w.heap.size w w1 := by rw [← hw1]; exact (Below.refl _ _).alloc (Nat.le_refl _) _
  have hr1 : Blk w1 w.heap.size 39 (ra h (.slice X m c)) := by rw [← hw1]; exact Blk.new w _ _ rfl
  have hd1 := hd.below hb1
  obtain ⟨c0, c1, c2, c3, c4, c5, c6, c7⟩ := k8 hr1
  by_cases hk : h.k = 1
  · have HK := Lib.hid hk
    have hk2 : (h.k == (1 : Int)) = true := by simp [hk]
    have hk3 : (h.k != (1 : Int)) = false := by simp [hk]
    clear hk
    cases hm : mayB h with
    | false =>
      have HE := Lib.hid (show bldE h ops = 1 by unfold bldE; rw [if_pos HK.out, hm]; rfl)
      have HV := Lib.hid (show bldV h ops = [] by unfold bldV; rw [HE.out]; rfl)
      go_enter Try.func15, Try.ntmps15
      go_wp2_with fail
      refine (may1_ _ h X m c hd1).mono ?_
      rw [hm]
      clear hm
      rintro e w2 ⟨rfl, hb2⟩
      go_wp2
      go_ret2
      unfold BuB BuA
      rw [HE.out, HV.out]
      exact ⟨none, 0, 0, [], rfl, Orl.nil _ _, rfl, hb1.trans (hb2.mono hb1.size)⟩
    | true =>
      have HE := Lib.hid (show bldE h ops = chkE (bldL h ops) by unfold bldE; rw [if_pos HK.out, hm]; rfl)
      obtain ⟨i0, hi0, hz0, hz1, hz2⟩ := rec_info
      have Hz := Lib.hid hz2
      clear hz2
      go_enter Try.func15, Try.ntmps15
      go_wp2_with fail
      refine (may1_ _ h X m c hd1).mono ?_
      rw [hm]
      clear hm
      rintro e w2 ⟨rfl, hb2⟩
      have hr2 := hr1.keep hb2
      have hB2 : Below w.heap.size w w2 := hb1.trans (hb2.mono hb1.size)
      obtain ⟨w3, hw3⟩ : ∃ w3, w2.setCell ⟨w.heap.size, 7, none⟩ (.slice none 0 0) = w3 := ⟨_, rfl⟩
      have hr3 : Blk w3 w.heap.size 39 (ra (bareR h) (.slice none 0 0)) := by rw [← hw3]; exact hr2.setCell 7 _
      have hB3 : Below w.heap.size w w3 := by rw [← hw3]; exact hB2.setCell (Nat.le_refl _) _
      have z2 := hr2.free
      have q7 := (k8 hr2).2.2.2.2.2.2.2
      obtain ⟨y0, y1, y2, y3, y4, y5, y6, y7⟩ := k8 hr3
      have hsz3 := hB3.size
      obtain ⟨w4, hw4⟩ : ∃ w4, w3.alloc (.cells (ra (bareR h) (.slice none 0 0)) 39) = w4 := ⟨_, rfl⟩
      have hB4 : Below w.heap.size w w4 := by rw [← hw4]; exact hB3.alloc hB3.size _
      have hO4 : Orl w4 w.heap.size (.slice (some ⟨w3.heap.size, 0, none⟩) 1 1) 1 [(bareR h, .slice none 0 0)] := by
        rw [← hw4]
        exact ⟨own_new w3 w.heap.size (ra (bareR h) (.slice none 0 0)) 39 rfl hsz3 (by unfold maxLen; omega), fun p hp => by rw [List.mem_singleton.1 hp]; exact own_nil _ _ _ _, fun p hp => by rw [List.mem_singleton.1 hp]; exact bare_sm hd.fit⟩
      go_wp2_with fail
      clear hw1 hw3 hw4 hr1 hr2 hr3 hd1 hb1 hb2 hB2 hB3 c0 c1 c2 c3 c4 c5 c6 c7 y0 y1 y2 y3 y4 y5 y6 y7 z2 q7
      go_loopw [6, 23] (fun lv iv wr => ∃ (i : Nat) (L : List (Rec × Value)), i ≤ n ∧ iv = .int .i64 (i : Int) ∧ Orl wr w.heap.size lv (i + 1) L ∧ Hid (L.map Prod.fst = bareR h :: (ops.take i).map recOp) ∧ Below w.heap.size w wr) (fun _ iv _ => n - (intOf iv).toNat)
      case atStart => exact ⟨0, _, Nat.zero_le _, rfl, hO4, Lib.hid rfl, hB4⟩
      case round =>
        obtain ⟨i, L, hi, rfl, hO, HL, hb⟩ := hrel
        obtain ⟨Al, cl, rfl, hcl, hml, hal⟩ := own_form hO.row
        by_cases hlt : i < n
        · have hil : (i : Int) < (n : Int) := by omega
          have hi0' : (0 : Int) ≤ (i : Int) := by omega
          obtain ⟨b, oo, Y, p, q, x, rfl, hx, r0, r1, r2, r3, hdx⟩ := (ho.below hb).at_ hlt
          have hba : Below wr.heap.size wr (wr.alloc (.cells (oa x (.slice Y p q)) 58)) := (Below.refl _ _).alloc (Nat.le_refl _) _
          have hdx1 := hdx.below hba
          have HT := Lib.hid (take_snoc hx)
          have hsm := recOp_sm hdx
          clear ho hdx hx
          go_wp2_with fail
          refine (record_ _ x Y p q hdx1).mono ?_
          rintro e w5 ⟨D, cd, rfl, hown5, hb5⟩
          have hb45 : Below wr.heap.size wr w5 := below_step hba hb5 (Nat.le_refl _)
          have hB5 : Below w.heap.size w w5 := hb.trans (hb45.mono hb.size)
          have hO5 := hO.keep hb45
          have hz5 : w.heap.size ≤ w5.heap.size := hB5.size
          have hown5 := hown5.mono (base' := w.heap.size) (by have := hb.size; have := hba.size; omega)
          obtain ⟨rr, hrr⟩ : ∃ rr, recOp x = rr := ⟨_, rfl⟩
          have hdd : x.data = rr.d := by rw [← hrr]; rfl
          rw [hdd] at hown5 ⊢
          rw [hrr] at hsm ⊢
          have Hrr := Lib.hid hrr
          obtain ⟨nn, hnn⟩ : ∃ nn, rr.d.length = nn := ⟨_, rfl⟩
          rw [hnn] at hown5 ⊢
          have Hnn := Lib.hid hnn
          clear hrr hdd hnn hb5 hba hdx1 r0 r1 r2 r3 hO hb hb45
          have hnews : Rd (w5.alloc (.cells (ra rr (.slice D nn cd)) 39)) (some ⟨w5.heap.size, 0, none⟩) 8 1 (rvs [(rr, .slice D nn cd)]) := rd_new1 w5 rr D nn cd _ rfl
          have hone : ∀ u ∈ rvs [(rr, Value.slice D nn cd)], u.oneCell' = true := rvs_one (by simp)
          have hb6 : Below w5.heap.size w5 (w5.alloc (.cells (ra rr (.slice D nn cd)) 39)) := (Below.refl _ _).alloc (Nat.le_refl _) _
          have hO6 := hO5.keep hb6
          have hdat : (w5.alloc (.cells (ra rr (.slice D nn cd)) 39)).ownsRow w.heap.size 52 1 (.slice D nn cd) rr.d.length (nvs rr.d) := by rw [Hnn.out]; exact own_keep hown5 hb6
          have hB6 : Below w.heap.size w (w5.alloc (.cells (ra rr (.slice D nn cd)) 39)) := hB5.trans (hb6.mono hB5.size)
          have hz6 : w.heap.size ≤ (w5.alloc (.cells (ra rr (.slice D nn cd)) 39)).heap.size := Nat.le_trans hz5 hb6.size
          have hnext := fun (v7 : Value) (w7 : World) (hown7 : w7.ownsRow w.heap.size 39 8 v7 (i + 1 + 1) (rvs L ++ rvs [(rr, .slice D nn cd)])) (hg7 : (w5.alloc (.cells (ra rr (.slice D nn cd)) 39)).grownBy w7 (Value.slice Al (i + 1) cl).ownBlock) => hO6.app hg7 hown7 (fun p hp => by rw [List.mem_singleton.1 hp]; exact hdat) (fun p hp => by rw [List.mem_singleton.1 hp]; exact hsm)
          go_wp2_with (first
            | (at_builtin
               refine wpList_app _ rfl (.tmp 27) (.tmp 30) _ rfl w.heap.size 39 i0 (.agg ra0) 8 80 Try.underlying22 hi0 hz0 hz1 Hz.out rfl (by omega) (.slice Al (i + 1) cl) (i + 1) (rvs L) rfl hO6.row _ 1 1 _ rfl (by simp) hnews hone (by unfold maxLen; omega) (by omega) hz6 ?_
               intro v7 w7 hown7 hg7 hat7
               have hO7 := hnext v7 w7 hown7 hg7
               have hB7 : Below w.heap.size w w7 := hB6.grown hg7 hz6 (fun k hk => (hO6.row.lt k hk).1)
               obtain ⟨A7, c7, rfl, hc7, hm7, ha7⟩ := own_form hown7))
          go_roundw
          case rel => exact ⟨i + 1, L ++ [(rr, .slice D nn cd)], by omega, by go_num, hO7, Lib.hid (by rw [HT.out, List.map_append, List.map_append, HL.out, ← Hrr.out]; simp), hB7⟩
          case measure => simp [intOf]; omega
        · have hin : i = n := by omega
          subst hin
          have HL2 := Lib.hid (show L.map Prod.fst = bareR h :: ops.map recOp by rw [HL.out, List.take_of_length_le (by have := Hn.out; omega)])
          have hz6 : w.heap.size ≤ (wr.alloc (.cells #[.int .i64 4, .int .i64 0, .int .i64 0, .int .i64 0, .int .i64 0, .int .i64 0, .int .i64 (i : Int), .slice none 0 0] 39)).heap.size := by have := hb.size; simp; omega
          have hnews : Rd (wr.alloc (.cells #[.int .i64 4, .int .i64 0, .int .i64 0, .int .i64 0, .int .i64 0, .int .i64 0, .int .i64 (i : Int), .slice none 0 0] 39)) (some ⟨wr.heap.size, 0, none⟩) 8 1 (rvs [(tailR i, .slice none 0 0)]) := rd_new1 wr (tailR i) none 0 0 _ rfl
          have hone : ∀ u ∈ rvs [(tailR i, Value.slice none 0 0)], u.oneCell' = true := rvs_one (by simp)
          have hb6 : Below wr.heap.size wr (wr.alloc (.cells #[.int .i64 4, .int .i64 0, .int .i64 0, .int .i64 0, .int .i64 0, .int .i64 0, .int .i64 (i : Int), .slice none 0 0] 39)) := (Below.refl _ _).alloc (Nat.le_refl _) _
          have hO6 := hO.keep hb6
          have hB6 := hb.trans (hb6.mono hb.size)
          have hnext := fun (v7 : Value) (w7 : World) (hown7 : w7.ownsRow w.heap.size 39 8 v7 (i + 1 + 1) (rvs L ++ rvs [(tailR i, .slice none 0 0)])) (hg7 : (wr.alloc (.cells #[.int .i64 4, .int .i64 0, .int .i64 0, .int .i64 0, .int .i64 0, .int .i64 0, .int .i64 (i : Int), .slice none 0 0] 39)).grownBy w7 (Value.slice Al (i + 1) cl).ownBlock) => hO6.app hg7 hown7 (fun p hp => by rw [List.mem_singleton.1 hp]; exact own_nil _ _ _ _) (fun p hp => by rw [List.mem_singleton.1 hp]; exact tail_sm hn)
          clear ho hO hb hb6 HL
          go_wp2_with (first
            | (at_builtin
               refine wpList_app _ rfl (.tmp 33) (.tmp 37) _ rfl w.heap.size 39 i0 (.agg ra0) 8 80 Try.underlying22 hi0 hz0 hz1 Hz.out rfl (by omega) (.slice Al (i + 1) cl) (i + 1) (rvs L) rfl hO6.row _ 1 1 _ rfl (by simp) hnews hone (by unfold maxLen; omega) (by omega) hz6 ?_
               intro v7 w7 hown7 hg7 hat7
               have hO7 := hnext v7 w7 hown7 hg7
               have hB7 : Below w.heap.size w w7 := hB6.grown hg7 hz6 (fun k hk => (hO6.row.lt k hk).1)
               obtain ⟨A7, c7, rfl, hc7, hm7, ha7⟩ := own_form hown7)
            | (go_at_call 21
               refine (check_ _ A7 (i + 1 + 1) c7 _ hO7.rcl hc7 (by unfold maxLen at hm7; omega)).mono ?_
               have hLL : (L ++ [(tailR i, Value.slice none 0 0)]).map Prod.fst = bldL h ops := by
                 rw [List.map_append, HL2.out]
                 unfold bldL
                 rw [← Hn.out]
                 rfl
               rw [hLL, ← HE.out]
               rintro e w8 ⟨rfl, hb8⟩
               have hO8 := hO7.keep hb8
               have hB8 : Below w.heap.size w w8 := hB7.trans (hb8.mono hB7.size)
               obtain ⟨E, hE⟩ : ∃ E, bldE h ops = E := ⟨_, rfl⟩
               rw [hE]
               have HE2 := Lib.hid hE
               clear hE))
          · rename_i hE0
            go_ret2
            have hE1 : E ≠ 0 := by simpa using hE0
            have HV := Lib.hid (show bldV h ops = [] by unfold bldV; rw [HE2.out, if_neg hE1])
            unfold BuB BuA
            rw [HE2.out, HV.out]
            exact ⟨none, 0, 0, [], rfl, Orl.nil _ _, rfl, hB8⟩
          · rename_i hE0
            go_ret2
            have hE1 : E = 0 := by simpa using hE0
            have HV := Lib.hid (show bldV h ops = bldL h ops by unfold bldV; rw [HE2.out, if_pos hE1])
            unfold BuB BuA
            rw [HE2.out, HV.out, hE1]
            exact ⟨A7, i + 1 + 1, c7, _, rfl, hO8, hLL, hB8⟩
  · have HE := Lib.hid (show bldE h ops = 1 by unfold bldE; rw [if_neg hk])
    have HV := Lib.hid (show bldV h ops = [] by unfold bldV; rw [HE.out]; rfl)
    go_enter Try.func15, Try.ntmps15
    go_wp2
    go_ret2
    unfold BuB BuA
    rw [HE.out, HV.out]
    exact ⟨none, 0, 0, [], rfl, Orl.nil _ _, rfl, hb1⟩
end
end Str
end Go.Proofs.Ytofoecpnphoohaa

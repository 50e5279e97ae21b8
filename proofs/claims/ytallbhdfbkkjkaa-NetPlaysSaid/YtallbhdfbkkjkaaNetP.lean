/- Layer 15: slices.Delete of one datagram. -/
import Derived.Test.YtallbhdfbkkjkaaNetL
import Derived.Lib.SliceRun
set_option linter.all false
namespace Go.Proofs.Ytallbhdfbkkjkaa
open Go.RowKit
namespace Net
/-- Cells of a block written over. -/
def putA (cs : Array Value) (o : Nat) (vs : List Value) : Array Value := (cs.toList.take o ++ vs ++ cs.toList.drop (o + vs.length)).toArray
theorem putA_size {cs : Array Value} {o : Nat} {vs : List Value} (h : o + vs.length ≤ cs.size) : (putA cs o vs).size = cs.size := by
  unfold putA; simp; omega
theorem Blk.setCells {w : World} {b : Nat} {t : TypeId} : ∀ {vs : List Value} {cs : Array Value} {o : Nat}, Blk w b t cs → o + vs.length ≤ cs.size → Blk (w.setCells b o vs) b t (putA cs o vs) := by
  intro vs
  induction vs generalizing w with
  | nil =>
    intro cs o h ho
    have : putA cs o [] = cs := by unfold putA; simp
    rw [this]
    exact h
  | cons v r ih =>
    intro cs o h ho
    rw [List.length_cons] at ho
    have h1 := ih (w := w.setCell ⟨b, o, none⟩ v) (cs := cs.setIfInBounds o v) (o := o + 1) (h.setCell o v) (by simp; omega)
    have e : putA (cs.setIfInBounds o v) (o + 1) r = putA cs o (v :: r) := by
      unfold putA
      congr 1
      rw [Array.toList_setIfInBounds]
      have hl : o < cs.toList.length := by simp; omega
      rw [List.take_set, List.drop_set_of_lt (by omega), List.take_succ_eq_append_getElem hl, List.set_append_right _ _ (by simp; omega)]
      simp
      rw [show min o cs.size = o by omega]
      simp [Nat.add_assoc, Nat.add_comm]
      rw [show r.length + (o + 1) = o + (r.length + 1) by omega]
    rw [← e]
    exact h1
theorem grown_setCells (g : Nat) : ∀ (vs : List Value) (o : Nat) (w : World), w.grownBy (w.setCells g o vs) (some g)
  | [], _, w => World.grownBy.refl w _
  | v :: r, o, w => (grown_setCell w ⟨g, o, none⟩ v).trans (grown_setCells g r (o + 1) _)
theorem run_clear_two {P : Program} (w : World) (t e ty : TypeId) (x y : Value) (ht : P.underlying t = some (.slice e)) (hv : ∀ w, (zeroValue e).run P w = .ok (.agg #[x, y]) w) (h1 : x.oneCell' = true) (h2 : y.oneCell' = true) (b o c : Nat)
    (hc : ∀ j, j < 2 → (w.cell? ⟨b, o + j, none⟩).isSome = true) (hf : ∀ j, j < 2 → w.frozen? ⟨b, o + j, none⟩ = false) :
    (Builtin.clear_ #[t] ty #[.slice (some ⟨b, o, none⟩) 1 c]).run P w = .ok (.tuple #[]) (w.setCells b o [x, y]) := by
  have hzc : (Builtin.zeroCells (Value.agg #[x, y]).cells 1).toList = [x, y] := by
    simp [Builtin.zeroCells, Value.cells]
    rfl
  have hst := run_storeCells_cells (P := P) b o [x, y] 0 w (by simpa using hc) (by simpa using hf) (by intro v hv'; simp at hv'; rcases hv' with rfl | rfl <;> assumption)
  simp only [Nat.add_zero] at hst
  simp [Builtin.clear_, run_underlying ht, hv, hzc, hst]
theorem zero_gram (w : World) : (zeroValue 93).run Try.prog w = .ok (.agg #[.slice none 0 0, .bool false]) w := by
  obtain ⟨i, hi, hz, _, _⟩ := gram_info
  simp [zeroValue, typeInfo, hi, hz]
theorem flat_blk {w : World} {B g n c : Nat} {xs : List Value} (h : w.ownsRow B 93 2 (.slice (some ⟨g, 0, none⟩) n c) n xs) : ∃ cur, Blk w g 93 cur ∧ n ≤ c ∧ c ≤ maxLen ∧ cur.size = c * 2 ∧ cur.toList.take (n * 2) = xs ∧ B ≤ g := by
  rcases h.2 with ⟨e1, _⟩ | ⟨g', cap', cur, e1, hg, hh, hnc, hcm, hcs, hx⟩
  · cases e1
  · injection e1 with e1 _ e3
    injection e1 with e1
    injection e1 with e1
    subst e1 e3
    exact ⟨cur, hh, hnc, hcm, hcs, hx, hg⟩
section
variable (w : World)
set_option maxRecDepth 100000 in
set_option maxHeartbeats 4000000 in
theorem del_ (B g n c i : Nat) (L : List (Value × Gr)) (h : w.ownsRow B 93 2 (.slice (some ⟨g, 0, none⟩) n c) n (gvs L)) (hi : i < n) (hone : ∀ p ∈ L, ∃ X m c, p.1 = .slice X m c) :
    Calls Try.prog 49 #[.slice (some ⟨g, 0, none⟩) n c, .int .i64 (i : Int), .int .i64 ((i : Int) + 1)] w fun e w' => e = .returned (.slice (some ⟨g, 0, none⟩) (n - 1 : Nat) c) ∧ w'.ownsRow B 93 2 (.slice (some ⟨g, 0, none⟩) (n - 1 : Nat) c) (n - 1) (gvs (L.eraseIdx i)) ∧ w.grownBy w' (some g) := by
  obtain ⟨i0, hi0', hz0, hz1, hz2⟩ := gram_info
  obtain ⟨cur, hblk, hnc, hcm, hcs, hx, hBg⟩ := flat_blk h
  have hnl : n = L.length := by have := h.1; rw [gvs_len] at this; omega
  have hcm' := hcm
  unfold maxLen at hcm'
  have hlg := h.1
  -- what is moved to the left
  obtain ⟨news, hnews⟩ : ∃ news, gvs (L.drop (i + 1)) = news := ⟨_, rfl⟩
  have hnl2 : news.length = (n - (i + 1)) * 2 := by rw [← hnews, gvs_len, List.length_drop, hnl]
  have hn1 : ∀ u ∈ news, u.oneCell' = true := by rw [← hnews]; exact gvs_one (fun p hp => hone p (List.mem_of_mem_drop hp))
  have hsrc : ∀ j u, news[j]? = some u → w.drew.cell? ⟨g, (i + 1) * 2 + j, none⟩ = some u := by
    intro j u hu
    refine hblk.cell ?_
    rw [← hnews, ← gvs_drop, List.getElem?_drop, ← hx, List.getElem?_take] at hu
    split at hu
    · simpa using hu
    · cases hu
  have hspare : ∀ j, j < news.length → (w.drew.cell? ⟨g, 0 + i * 2 + j, none⟩).isSome = true ∧ w.drew.frozen? ⟨g, 0 + i * 2 + j, none⟩ = false := by
    intro j hj
    have hlt : 0 + i * 2 + j < cur.size := by rw [hnl2] at hj; omega
    exact ⟨by rw [show w.drew.cell? _ = some cur[0 + i * 2 + j] from hblk.cell (by rw [Array.getElem?_eq_getElem hlt])]; rfl, hblk.free _⟩
  obtain ⟨W1, hW1⟩ : ∃ W1, w.drew.setCells g (0 + i * 2) news = W1 := ⟨_, rfl⟩
  have hb1 : Blk W1 g 93 (putA cur (0 + i * 2) news) := by rw [← hW1]; exact Blk.setCells (show Blk w.drew g _ cur from hblk) (by rw [hnl2]; omega)
  have hg1 : w.grownBy W1 (some g) := by rw [← hW1]; have := grown_setCells g news (0 + i * 2) w.drew; exact ⟨this.os, this.tape, this.output, this.size, this.block⟩
  have hs1 : (putA cur (0 + i * 2) news).size = c * 2 := by rw [putA_size (by rw [hnl2]; omega), hcs]
  have hcl : ∀ ty cc, (Builtin.clear_ #[63] ty #[.slice (some ⟨g, (n - 1) * 2, none⟩) 1 cc]).run Try.prog W1 = .ok (.tuple #[]) (W1.setCells g ((n - 1) * 2) [.slice none 0 0, .bool false]) := fun ty cc =>
    run_clear_two W1 _ 93 ty _ _ Try.underlying63 zero_gram rfl rfl g ((n - 1) * 2) cc (fun j hj => by
      have hlt : (n - 1) * 2 + j < (putA cur (0 + i * 2) news).size := by rw [hs1]; omega
      rw [show W1.cell? _ = some (putA cur (0 + i * 2) news)[(n - 1) * 2 + j] from hb1.cell (by rw [Array.getElem?_eq_getElem hlt])]; rfl) (fun j hj => hb1.free _)
  have hend : ∀ W2, W1.setCells g ((n - 1) * 2) [.slice none 0 0, .bool false] = W2 → W2.ownsRow B 93 2 (.slice (some ⟨g, 0, none⟩) (n - 1 : Nat) c) (n - 1) (gvs (L.eraseIdx i)) ∧ w.grownBy W2 (some g) := by
    rintro W2 rfl
    have hb2 := Blk.setCells hb1 (vs := [.slice none 0 0, .bool false]) (o := (n - 1) * 2) (by rw [hs1]; simp; omega)
    refine ⟨⟨by rw [gvs_len, List.length_eraseIdx_of_lt (by omega), hnl], .inr ⟨g, c, _, rfl, hBg, hb2, by omega, hcm, by rw [putA_size (by rw [hs1]; simp; omega), hs1], ?_⟩⟩, hg1.trans (grown_setCells _ _ _ _)⟩
    unfold putA
    simp only [Nat.zero_add]
    have hc2 : cur.toList.length = c * 2 := by simpa using hcs
    rw [List.append_assoc, List.take_append_of_le_length (by simp; omega), List.take_take, show min ((n - 1) * 2) ((n - 1) * 2) = (n - 1) * 2 by omega]
    rw [List.take_append_of_le_length (by simp; omega), List.take_of_length_le (by simp; omega)]
    rw [List.eraseIdx_eq_take_drop_succ, gvs_app, hnews, ← gvs_take, ← hx, List.take_take, show min (i * 2) (n * 2) = i * 2 by omega]
  have Hend := Lib.hid hend
  have HW1 := Lib.hid hW1
  have Hsrc := Lib.hid hsrc
  have Hspare := Lib.hid hspare
  have Hn1 := Lib.hid hn1
  have Hnl2 := Lib.hid hnl2
  have t1 : (i : Int) ≤ (i : Int) + 1 := by omega
  have t2 : (i : Int) + 1 ≤ (n : Int) := by omega
  have t3 : (n : Int) ≤ (c : Int) := by omega
  have t4 : (0 : Int) ≤ (i : Int) := by omega
  have t5 : ¬ (i : Int) = (i : Int) + 1 := by omega
  have t6 : ((i : Int) + 1).toNat = i + 1 := by omega
  have t7 : (i : Int) ≤ (c : Int) := by omega
  have t8 : i + (n - (i + 1)) = n - 1 := by omega
  have t9 : n - (n - 1) = 1 := by omega
  have t10 : ¬ c = n - 1 := by omega
  have t11 : i ≤ c := by omega
  have t12 : i + 1 ≤ n := by omega
  have t13 : i + 1 ≤ c := by omega
  have t14 : ((n - 1 : Nat) : Int) ≤ (n : Int) := by omega
  have t15 : (0 : Int) ≤ ((n - 1 : Nat) : Int) := by omega
  have t16 : n - 1 ≤ n := by omega
  have t17 : (0 : Int) ≤ (i : Int) + 1 := by omega
  have t18 : (i : Int) + 1 ≤ (c : Int) := by omega
  by_cases hci : c = i + 1
  · have Hsrc2 := Lib.hid (show ∀ j u, news[j]? = some u → w.drew.cell? ((⟨g, 0, none⟩ : Addr).add j) = some u from fun j u hu => by
      have := (List.getElem?_eq_some_iff.1 hu).1
      omega)
    clear h hx hblk hcs hcm hnl hlg hnews hnl2 hn1 hsrc hspare hb1 hg1 hs1 hend hW1
    have hni : n = i + 1 := by omega
    have hcl2 : ∀ ty cc, (Builtin.clear_ #[63] ty #[.slice (some ⟨g, i * 2, none⟩) (n - i) cc]).run Try.prog w.drew = .ok (.tuple #[]) (W1.setCells g ((n - 1) * 2) [.slice none 0 0, .bool false]) := fun ty cc => by
      have h1 := hcl ty cc
      have hW : W1 = w.drew := by
        rw [← HW1.out, show news = [] from List.eq_nil_of_length_eq_zero (by rw [Hnl2.out]; omega)]
        rfl
      rw [hW] at h1 ⊢
      rw [show n - i = 1 by omega]
      rw [show n - 1 = i by omega] at h1 ⊢
      exact h1
    have Hni := Lib.hid (show n - 1 = i by omega)
    clear hcl hni
    subst hci
    go_enter Try.func49, Try.ntmps49
    go_wp2_with fail
    go_region_held3 (fun _ => True) (first | go_keep | trivial)
      (first
        | (refine step_append_room rfl (.tmp 22) (.tmp 25) 63 rfl 93 i0 2 Try.underlying63 hi0' hz1 g 0 i c rfl ⟨g, 0, none⟩ (n - (i + 1)) (c - (i + 1)) news rfl Hnl2.out Hsrc2.out Hn1.out (by omega) Hspare.out ?_
           rw [HW1.out]))
    go_wp2
    go_ret
    exact ⟨by rw [Hni.out]; rfl, Hend.out _ rfl⟩
  · clear h hx hblk hcs hcm hnl hlg hnews hnl2 hn1 hsrc hspare hb1 hg1 hs1 hend hW1
    go_enter Try.func49, Try.ntmps49
    go_wp2_with fail
    go_region_held3 (fun _ => True) (first | go_keep | trivial)
      (first
        | (refine step_append_room rfl (.tmp 22) (.tmp 25) 63 rfl 93 i0 2 Try.underlying63 hi0' hz1 g 0 i c rfl ⟨g, (i + 1) * 2, none⟩ (n - (i + 1)) (c - (i + 1)) news rfl Hnl2.out (fun j u hu => by rw [add_plain]; exact Hsrc.out j u hu) Hn1.out (by omega) Hspare.out ?_
           rw [HW1.out]))
    go_wp2
    go_ret
    exact ⟨rfl, Hend.out _ rfl⟩
end
end Net
end Go.Proofs.Ytallbhdfbkkjkaa

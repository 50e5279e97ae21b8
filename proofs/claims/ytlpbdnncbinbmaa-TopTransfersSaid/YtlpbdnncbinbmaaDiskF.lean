/- Package disk's Flush. -/
import Derived.Test.YtlpbdnncbinbmaaDiskR
namespace Go.Proofs.Ytlpbdnncbinbmaa
open Go.RowKit Go.Maps

theorem sameKey_key {i j : Nat} : (key j).sameKey (key i) = decide (j = i) := by
  by_cases h : j = i
  · subst h; rw [WideAt.sameKey_self (key_is j)]; simp
  · rw [Maps.sameKey_ne (key_ne h)]; simp [h]
/-- What is on the disk while some of the cache has still to come. -/
def mix (s : DS) (left : Lit → Bool) (j : Nat) : List UInt8 :=
  match s.cache j with
  | some x => if left (key j) = true then s.plate j else x
  | none => s.plate j
theorem mix_start {s : DS} {left : Lit → Bool} (h : ∀ j, j < s.n → left (key j) = (s.cache j).isSome) {j : Nat} (hj : j < s.n) : s.plate j = mix s left j := by
  unfold mix
  have := h j hj
  cases hc : s.cache j with
  | none => rfl
  | some x => rw [hc] at this; simp only; rw [this]; rfl
theorem mix_end {s : DS} {left : Lit → Bool} (h : ∀ kl, left kl = false) (j : Nat) : mix s left j = s.look j := by
  unfold mix DS.look
  cases hc : s.cache j with
  | none => rfl
  | some x => simp only; rw [h]; rfl
theorem mix_step {s : DS} {left : Lit → Bool} {i : Nat} {xs : List UInt8} (hi : s.cache i = some xs) (j : Nat) :
    (if j = i then xs else mix s left j) = mix s (fun z => left z && !z.sameKey (key i)) j := by
  unfold mix
  by_cases h : j = i
  · subst h
    simp only [if_true, hi, sameKey_key, decide_true, Bool.not_true, Bool.and_false]
    rfl
  · rw [if_neg h]
    cases hc : s.cache j with
    | none => rfl
    | some x => simp only [sameKey_key, h, decide_false, Bool.not_false, Bool.and_true]

set_option maxRecDepth 100000 in
theorem flush_down (g : Nat) (s : DS) (w : World) (h : Dk w g s) (ho : s.step.on = false) :
    Calls Try.prog 47 #[.pointer (some ⟨g + 2, 0, none⟩)] w fun e w' => e = .returned (.int .i64 8) ∧ Dk w' g s.step ∧ Tn g (g + 3) w w' := by
  have Ho := Lib.hid ho
  clear ho
  go_enter Try.func47, Try.ntmps47
  go_wp2_with fail
  refine (made_ g s w h).mono ?_
  rintro e w' ⟨rfl, rfl⟩
  go_wp2_with fail
  refine (step_ g s w h).mono ?_
  rw [Ho.out]
  rintro e w1 ⟨rfl, h1, ht1⟩
  go_wp2
  go_ret
  exact ⟨rfl, h1, ht1.wide (by omega) (by omega)⟩

set_option maxRecDepth 100000 in
set_option maxHeartbeats 1000000 in
theorem flush_ok (g : Nat) (s : DS) (w : World) (h : Dk w g s) (ho : s.step.on = true) :
    Calls Try.prog 47 #[.pointer (some ⟨g + 2, 0, none⟩)] w fun e w' => e = .returned (.int .i64 0) ∧ Dk w' g { s.step with plate := s.look, cache := fun _ => none } ∧ Tn g (g + 3) w w' := by
  have Ho := Lib.hid ho
  have hlk : s.step.look = s.look := by funext j; unfold DS.look; rw [step_cache, step_plate]
  rw [← hlk]
  clear ho hlk
  go_enter Try.func47, Try.ntmps47
  go_wp2_with fail
  refine (made_ g s w h).mono ?_
  rintro e w' ⟨rfl, rfl⟩
  go_wp2_with fail
  refine (step_ g s w h).mono ?_
  rw [Ho.out]
  rintro e w1 ⟨rfl, h1, ht1⟩
  have c2 := h1.self.cell (j := 2) (u := .map (some (g + 1))) rfl
  obtain ⟨D, hD, hm⟩ := h1.cache
  have hl1 := h1.lt
  have hmost := h1.most
  have hleast := h1.least
  have hfuse := h1.fuse
  have hs1 := ht1.size
  have htw : Tn g (g + 3) w w1 := ht1.wide (by omega) (by omega)
  clear ht1 Ho h
  go_wp2_with (first
    | (at_range
       refine wpList_range_own _ rfl _ 82 rfl 3 87 (int_keyed Try.underlying3) Try.underlying82 secE (g + 1) _ D rfl hD ?_
       intro w2 hrg2 hg2 hs2)
    | fail)
  go_frame
  have ht2 : Tn g (g + 3) w w2 := htw.trans (Tn.ofGrown0 hg2)
  have h2 : Dk w2 g s.step := h1.tn (Tn.ofGrown0 (lo := 0) (hi := 0) hg2) (by omega)
  have hp2 : PlateAt w2 g s.step.n (mix s.step (Maps.has D)) := h2.plate.congr fun j hj => mix_start hm.has hj
  have hb2 := h2.self
  have hw2 : w1.heap.size < w2.heap.size := by omega
  generalize hr : w1.heap.size = r at *
  have hwr : w.heap.size ≤ r := by omega
  clear hg2 hs2 hr
  go_loopw [16] (fun _ wr => ∃ left cnt, wr.ranges Try.prog 3 secE (g + 1) r s.step.n D left cnt ∧ PlateAt wr g s.step.n (mix s.step left) ∧ Blk wr (g + 2) 84 (DkC g s.step) ∧ Tn g (g + 3) w wr) (fun _ wr => wr.rangeLeft (g + 1) r)
  case atStart => exact ⟨_, _, hrg2, hp2, hb2, ht2⟩
  case round =>
    obtain ⟨left, cnt, hrg, hp, hb, ht⟩ := hrel
    clear hrg2 hp2 hb2 ht2 hD h2 htw h1 c2
    go_wp2_with (first
      | (at_next
         refine wpList_next_ranges _ rfl _ rfl 3 (int_keyed Try.underlying3) secE (Value.int .i64) (fun c : List UInt8 => .agg (bvs c).toArray) (fun k kl hk => by obtain ⟨x, rfl, _⟩ := Maps.keyOf_int_inv Try.underlying3 hk; exact ⟨x, rfl⟩) (fun v y hv => by obtain ⟨xs, _, rfl, _⟩ := secE_inv hv; exact ⟨xs, rfl⟩) (g + 1) r _ D left cnt rfl hrg ?_ ?_)
      | fail)
    · intro hc0 hl0
      have c2 := hb.cell (j := 2) (u := .map (some (g + 1))) rfl
      have hD := hrg.owns
      go_wp2_with (first
        | (refine wpList_clear_map _ rfl _ 82 rfl 3 87 Try.underlying82 secE (g + 1) _ D rfl hD ?_
           intro w4 hD4 hg4)
        | fail)
      have ht4 : Tn (g + 1) (g + 2) wr w4 := Tn.ofGrown hg4 (Nat.le_refl (g + 1)) (Nat.lt_succ_self (g + 1))
      go_ret
      exact ⟨rfl, ⟨ht4.blk hb (by omega), (hp.congr fun j _ => mix_end hl0 j).tn ht4 (by omega), ⟨_, hD4.mono (Nat.zero_le _), MpIs.empty _⟩, hmost, hleast, hfuse⟩, ht.trans (ht4.wide (by omega) (by omega))⟩
    · intro x xs kl yd yp w3 cnt3 hkx hlx hy hat hrg3 hlt hg3 hs3 hen
      obtain ⟨ys, hyl, hye, hyz⟩ := secE_inv hy
      simp only [Value.agg.injEq] at hye
      obtain rfl : ys = xs := bvs_inj (by simpa using hye.symm)
      simp only [Prod.mk.injEq] at hyz
      obtain ⟨rfl, rfl⟩ := hyz
      obtain ⟨j, hj, rfl⟩ := hm.out kl (Maps.has_true_of_atKey hat)
      obtain ⟨x', hx1, hx2, _⟩ := Maps.keyOf_int_inv Try.underlying3 hkx
      simp only [Value.int.injEq, true_and] at hx1
      simp only [key, Lit.int.injEq, true_and] at hx2
      subst hx1
      subst hx2
      clear hye hkx
      have hcj : s.step.cache j = some ys := by
        have h1 := hm.has j hj
        rw [Maps.has_true_of_atKey hat] at h1
        cases hc : s.step.cache j with
        | none => rw [hc] at h1; cases h1
        | some zs =>
          have h2 := (hm.at_ j hj zs hc).2 (.lit (.bool true))
          rw [hat] at h2
          simp only [DataW.lit.injEq, Lit.string.injEq] at h2
          rw [h2]
      have Hc := Lib.hid hcj
      have Hle := Lib.hid hrg.left_eq
      clear hcj
      have ht3 : Tn r (r + 1) wr w3 := Tn.ofGrown hg3 (Nat.le_refl r) (Nat.lt_succ_self r)
      have hT3 : Tn g (g + 3) w w3 := ht.new ht3 hwr
      have hb3 := ht3.blk hb (by omega)
      have hp3 := hp.tn ht3 (by omega)
      have hgr3 := hb3.lt
      have hrl3 := hrg3.lt
      have hws3 := hT3.size
      obtain ⟨iz, hiz, hiz0, _, _⟩ := info_parts info_sector
      clear hg3 hb hp hrg ht ht3 hs3 hy hat
      go_wp2_with (first
        | (refine wpList_alloc_blk _ rfl 87 rfl iz _ hiz hiz0 ?_
           intro w4 hk4 hb4 hs4)
        | (refine wpList_store_blk _ rfl 87 _ _ rfl w3.heap.size 87 _ _ hk4 rfl rfl (by rw [List.size_toArray, bvs_length, hyl]; rfl) (by rw [size_sector, List.size_toArray, bvs_length, hyl]) (sector_one _) ?_
           intro w5 hk5 ht5)
        | fail)
      have hb5 : Below w3.heap.size w3 w5 := hb4.trans (ht5.below (Nat.le_refl _) hb4.size)
      have hT5 : Tn g (g + 3) w w5 := hT3.trans (Tn.ofBelow hb5 (Nat.le_refl _))
      have hblk5 := hb3.below hb5 hgr3
      have hp5 := hp3.tn (Tn.ofBelow (lo := 0) (hi := 0) hb5 (Nat.le_refl _)) (by omega)
      have hrg5 := hrg3.kept (below_grown hb5 none) (by simp) (by simp)
      have hq5 := hk5.lt
      generalize w3.heap.size = q at *
      have c1 := hblk5.cell (j := 1) (u := .slice (some ⟨g, 0, none⟩) s.step.n s.step.n) rfl
      have hr : w5.rangeAt q 0 (bvs ys) := hk5.range (o := 0) fun j v hv => by simpa using hv
      have hth : w5.there g (j * 64) (bvs ys).length := by rw [bvs_length, hyl]; exact (hp5 j hj).2.2
      have hu := Try.underlying87
      have hi64 : (Try.prog.info? 87).map (·.size) = some (bvs ys).length := by rw [size_sector, bvs_length, hyl]
      have h1c : ∀ v ∈ bvs ys, v.oneCell' = true := fun v hv => by obtain ⟨c, _, rfl⟩ := List.mem_map.1 hv; rfl
      have hji : (j : Int) < (s.step.n : Int) := by omega
      have hj0 : 0 ≤ (j : Int) := by omega
      have hkey1 : ∀ v o u, (w5.drew.setCells g o v).cell? ⟨g + 2, 1, none⟩ = some u ↔ w5.drew.cell? ⟨g + 2, 1, none⟩ = some u := fun v o u => by
        rw [World.cell?_setCells_out g v o w5.drew ⟨g + 2, 1, none⟩ (fun h _ => by simp at h)]
      clear hk4 hk5 hb4 ht5 hs4 hen hb3 hp3 hrg3 hb5
      go_wp2_with fail
      go_region_held3 (fun w' => w'.cell? ⟨g + 2, 1, none⟩ = some (.slice (some ⟨g, 0, none⟩) s.step.n s.step.n) ∧ w'.rangeAt q 0 (bvs ys) ∧ w'.there g (j * 64) (bvs ys).length)
        (first | exact ⟨c1, hr, hth⟩ | exact ⟨(hkey1 _ _ _).2 c1, World.rangeAt_setCells_apart (w := w5.drew) hr _ _ _ (by omega), World.there_setCells (w := w5.drew) hth _ _ _⟩)
        (first | fail)
      have hT6 : Tn g (g + 3) w5 (w5.drew.setCells g (j * 64) (bvs ys)) := (Tn.sets (b := g) (lo := g) (hi := g + 3) (Nat.le_refl _) (by omega) (bvs ys) (j * 64) w5.drew).drew
      have hG6 := grown_sets g (bvs ys) (j * 64) w5.drew
      have hp6 := PlateAt.set (w := w5.drew) hp5 hj hyl
      have hrg6 := (show w5.drew.ranges Try.prog 3 secE (g + 1) r s.step.n D (fun z => left z && !z.sameKey (key j)) cnt3 from hrg5).kept hG6 (by simp) (by simp; omega)
      have hblk6 : Blk (w5.drew.setCells g (j * 64) (bvs ys)) (g + 2) 84 (DkC g s.step) := Blk.grown (w := w5.drew) hblk5 hG6 (by simp)
      go_roundw
      case rel => exact ⟨_, _, _, _, _, _, _, _, _, _, _, _, _, _, ⟨_, _, hrg6, hp6.congr fun k _ => mix_step Hc.out k, hblk6, hT5.trans hT6⟩, rfl⟩
      case measure => rw [hrg6.left_eq, Hle.out]; exact hlt

/-- Flush. -/
theorem flush_ (g : Nat) (s : DS) (w : World) (h : Dk w g s) :
    Calls Try.prog 47 #[.pointer (some ⟨g + 2, 0, none⟩)] w fun e w' => e = .returned (.int .i64 (s.flush.1 : Int)) ∧ Dk w' g s.flush.2 ∧ Tn g (g + 3) w w' := by
  unfold DS.flush
  cases ho : s.step.on with
  | true => rw [if_pos rfl]; exact flush_ok g s w h ho
  | false => rw [if_neg (by simp)]; exact flush_down g s w h ho
end Go.Proofs.Ytlpbdnncbinbmaa

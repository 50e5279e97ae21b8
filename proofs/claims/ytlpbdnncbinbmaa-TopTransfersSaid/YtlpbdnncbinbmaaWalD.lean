/- Package wal: redo, note. -/
import Derived.Test.YtlpbdnncbinbmaaWalC
namespace Go.Proofs.Ytlpbdnncbinbmaa
open Go.RowKit Go.Maps

theorem redoL_succ (ats : Nat → Nat) (P : Nat → List UInt8) (k : Nat) : redoL ats P (k + 1) = redoL ats P k ++ [(9 + ats k, P (ats k))] := by unfold redoL; rw [List.range_succ, List.map_append]; rfl
theorem redoL_take (ats : Nat → Nat) (P : Nat → List UInt8) {m k : Nat} (h : m ≤ k) : ∃ l', redoL ats P k = redoL ats P m ++ l' := by
  refine ⟨(redoL ats P k).drop m, ?_⟩
  have : redoL ats P m = (redoL ats P k).take m := by
    unfold redoL
    rw [← List.map_take, List.take_range, Nat.min_eq_left h]
  rw [this, List.take_append_drop]
set_option maxRecDepth 100000 in
set_option maxHeartbeats 2000000 in
theorem redo_ (g : Nat) (s : DS) (k : Nat) (ats : Nat → Nat) (P : Nat → List UInt8) (w : World) (h : Dk w g s) (hN : 10 ≤ s.n) (ho : s.on = true) (hk : k ≤ 6)
    (ha : ∀ j, j < k → ats j < s.n - 9 ∧ s.look (2 + j) = secOf (noteB (ats j) (P (ats j))) ∧ (P (ats j)).length = 48) :
    Calls Try.prog 51 #[.pointer (some ⟨g + 2, 0, none⟩), .int .i64 (k : Int)] w fun e w' => e = .returned (.int .i64 ((wrsF (redoL ats P k) s).1 : Int)) ∧ Dk w' g (wrsF (redoL ats P k) s).2 ∧ Tn g (g + 3) w w' := by
  have hmost := h.most
  have hgl := h.lt
  go_enter Try.func51, Try.ntmps51
  go_wp2_with fail
  refine (noted_ g s k ats P w h hN ho hk ha).mono ?_
  rintro e w1 ⟨A, c, rfl, hU, hc, hm, hB⟩
  have h1 := h.below hB
  have hT1 : Tn g (g + 3) w w1 := Tn.ofBelow hB (Nat.le_refl _)
  have hz := hB.size
  go_wp2_with fail
  go_loopw [21] (fun i wr => ∃ m : Nat, m ≤ k ∧ i = .int .i64 (m : Int) ∧ (wrs (redoL ats P m) s).1 = 0 ∧ Dk wr g (wrs (redoL ats P m) s).2 ∧ Tn g (g + 3) w1 wr) (fun i _ => k - (intOf i).toNat)
  case atStart => exact ⟨0, Nat.zero_le _, rfl, rfl, h1, Tn.refl _ _ _⟩
  case round =>
    obtain ⟨m, hm', rfl, h0, hd, ht⟩ := hrel
    have hn := wrs_n (redoL ats P m) s
    have hm1 := redoL_succ ats P m
    have hw := wrs_more h0 (9 + ats m) (P (ats m))
    rw [← hm1] at hw
    have HS := Lib.hid (fun h => redoL_take ats P (m := m + 1) (k := k) h)
    clear h hm1
    obtain ⟨r0, s1, hr0⟩ : ∃ r0 s1, wrs (redoL ats P m) s = (r0, s1) := ⟨_, _, rfl⟩
    rw [hr0] at h0 hd hn hw
    have HR0 := Lib.hid hr0
    clear hr0
    simp only at h0 hd hn hw
    subst h0
    have hz1 := ht.size
    have hTT := hT1.trans ht
    by_cases hlt : m < k
    · obtain ⟨b, o, X, n, c', rfl, hx, hc0, hc1, hb, hX, hnc, hcm, hXo, hbo⟩ := (hU.tn ht (Nat.le_refl _) (Nat.le_refl _)).at_ hlt
      have e1 : (notes ats P k)[m] = ((ats m : Int), P (ats m)) := by simp [notes]
      rw [e1] at hc0 hb
      simp only at hc0 hb
      have hlt' : (m : Int) < (k : Int) := by omega
      have ham := (ha m hlt).1
      go_wp2_with fail
      refine (write_ g s1 ((9 + ats m : Nat) : Int) X n c' (P (ats m)) _ (hd.alloc _) (hb.alloc _) hX hnc hXo).mono ?_
      rw [← hw]
      rintro e w2 ⟨rfl, h2, ht2⟩
      have hT2 := ht.trans ((Tn.alloc _ _).trans ht2)
      obtain ⟨e2, s2, hr2⟩ : ∃ e2 s2, wrs (redoL ats P (m + 1)) s = (e2, s2) := ⟨_, _, rfl⟩
      rw [hr2] at h2 ⊢
      have HR := Lib.hid hr2
      clear hr2 hw
      by_cases he : e2 = 0
      · subst he
        go_wp2
        go_roundw
        case rel => exact ⟨m + 1, by omega, by go_num, by rw [HR.out], by rw [HR.out]; exact h2, hT2⟩
        case measure => simp [intOf]; omega
      · have he' : ¬ (e2 : Int) = 0 := by omega
        have hF : wrsF (redoL ats P k) s = (e2, s2) := by
          obtain ⟨l', e⟩ := HS.out (by omega)
          rw [e, wrsF_stop (by rw [HR.out]; exact he), HR.out]
        have HF := Lib.hid hF
        clear hF he
        go_wp2
        go_ret
        rw [HF.out]
        exact ⟨rfl, h2, hT1.trans hT2⟩
    · obtain rfl : m = k := by omega
      have HF := Lib.hid (show wrsF (redoL ats P m) s = s1.flush by rw [wrsF_all (by rw [HR0.out]), HR0.out])
      go_wp2_with fail
      refine (flush_ g s1 _ hd).mono ?_
      rintro e w2 ⟨rfl, h2, ht2⟩
      go_wp2
      go_ret
      rw [HF.out]
      exact ⟨rfl, h2, hTT.trans ht2⟩

/-! ### note -/
theorem upon_copy_blk {P : Program} (w : World) {o : Oper} {a : Act} {K : Act → World → Prop} {Q : Exit → Act → World → Prop} {F : Value → World → Result Next} (T ty : TypeId)
    (b : Nat) (t : TypeId) (cur : Array Value) (hb : Blk w b t cur) (e : TypeId) (hT : P.underlying T = some (.slice e)) (he : (P.info? e).map (·.size) = some 1) (L M : Nat) (hL : L = cur.size)
    (A : Option Addr) (n c : Nat) (xs : List UInt8) (hx : Bs w A n xs) (hA : A = none → n = 0) (hn : n ≤ L)
    (hK : ∀ z w', Blk w' b t (bvs xs ++ cur.toList.drop n).toArray → Tn b (b + 1) w w' → Oper.upon P o a K Q (F z w')) :
    Oper.upon P o a K Q (((Builtin.copy_ #[T, T] ty #[.slice (some ⟨b, 0, none⟩) L M, .slice A n c]).run P w).andThen F) := by
  obtain ⟨z, w', hrun, r1, r2⟩ := run_copy_blk hb T e ty hT he L M hL (c := c) hx hA hn
  rw [hrun]
  exact hK z w' r1 r2
theorem info_row : (Try.prog.info? 92).map (fun i => (i.zero, i.size, i.bytes)) = some (some (.agg (bvs row0).toArray), 48, 48) := by kernel_rfl
theorem row_eq {xs : List UInt8} {n : Nat} (hn : n = xs.length) : bvs xs ++ (bvs row0).drop n = bvs (rowOf xs) := by
  subst hn
  have h : (bvs row0).drop xs.length = bvs (List.replicate (48 - xs.length) 0) := by
    unfold bvs row0
    rw [List.map_replicate, List.drop_replicate, List.map_replicate]
  rw [h, ← bvs_append]
  rfl
theorem noteL_take {l : List Upd} {m : Nat} (hm : m < l.length) : noteL (l.take (m + 1)) = noteL (l.take m) ++ [(2 + m, secOf (noteB l[m].1.toNat (rowOf l[m].2)))] := by
  unfold noteL
  rw [List.take_succ_eq_append_getElem hm, List.mapIdx_append]
  congr 1
  simp [List.length_take, Nat.min_eq_left (Nat.le_of_lt hm)]
theorem noteL_pre (l : List Upd) (m : Nat) : ∃ l', noteL l = noteL (l.take m) ++ l' := by
  refine ⟨(noteL l).drop m, ?_⟩
  have : noteL (l.take m) = (noteL l).take m := by
    unfold noteL
    apply List.ext_getElem?
    intro i
    simp only [List.getElem?_mapIdx, List.getElem?_take]
    split <;> simp
  rw [this, List.take_append_drop]
set_option maxRecDepth 100000 in
set_option maxHeartbeats 4000000 in
theorem note_ (g : Nat) (s : DS) (A : Option Addr) (n c : Nat) (l : List Upd) (w : World) (h : Dk w g s) (hN : 10 ≤ s.n) (hl : ∀ u ∈ l, ¬ badU (s.n - 9) u) (hlen : l.length ≤ 6) (hU : Uss w g (g + 3) A n l) :
    Calls Try.prog 34 #[.pointer (some ⟨g + 2, 0, none⟩), .slice A n c] w fun e w' => e = .returned (.int .i64 ((wrsF (noteL l) s).1 : Int)) ∧ Dk w' g (wrsF (noteL l) s).2 ∧ Tn g (g + 3) w w' := by
  obtain ⟨iz, hiz, hiz0, _, _⟩ := info_parts info_row
  have hmost := h.most
  have hgl := h.lt
  have Hn := Lib.hid hU.1
  have hn6 : n ≤ 6 := by have := hU.1; omega
  go_enter Try.func34, Try.ntmps34
  go_wp2_with fail
  go_loopw [12] (fun i wr => ∃ m : Nat, m ≤ n ∧ i = .int .i64 (m : Int) ∧ (wrs (noteL (l.take m)) s).1 = 0 ∧ Dk wr g (wrs (noteL (l.take m)) s).2 ∧ Tn g (g + 3) w wr) (fun i _ => n - (intOf i).toNat)
  case atStart => exact ⟨0, Nat.zero_le _, rfl, rfl, h, Tn.refl _ _ _⟩
  case round =>
    obtain ⟨m, hm', rfl, h0, hd, ht⟩ := hrel
    have hn := wrs_n (noteL (l.take m)) s
    have HS := Lib.hid (fun m => noteL_pre l m)
    obtain ⟨r0, s1, hr0⟩ : ∃ r0 s1, wrs (noteL (l.take m)) s = (r0, s1) := ⟨_, _, rfl⟩
    rw [hr0] at h0 hd hn
    simp only at h0 hd hn
    subst h0
    have hz1 := ht.size
    by_cases hlt : m < n
    · obtain ⟨b, o, X, xn, xc, rfl, hx, hc0, hc1, hb, hX, hnc, hcm, hXo, hbo⟩ := (hU.tn ht (Nat.le_refl _) (Nat.le_refl _)).at_ hlt
      have hbad := hl _ (List.getElem_mem hx)
      unfold badU at hbad
      have hw : wrs (noteL (l.take (m + 1))) s = s1.write ((2 + m : Nat) : Int) (secOf (noteB l[m].1.toNat (rowOf l[m].2))) := by
        rw [noteL_take hx, wrs_more (by rw [hr0])]
        rw [hr0]
      have HR0 := Lib.hid hr0
      clear hr0
      obtain ⟨a, ha⟩ : ∃ a : Nat, l[m].1 = (a : Int) := ⟨l[m].1.toNat, by omega⟩
      rw [ha] at hc0 hbad
      rw [ha, Int.toNat_natCast] at hw
      generalize l[m].2 = x at *
      clear ha
      have hxn := hb.len
      have hxn' : (xn : Int) ≤ 48 := by omega
      have Hxn := Lib.hid hxn
      clear hxn
      have ha' : (a : Int) ≤ 300 := by omega
      go_wp2_with (first
        | (refine wpList_alloc_blk _ rfl 92 rfl iz _ hiz hiz0 ?_
           intro w2 hk2 hb2 hs2)
        | fail)
      have hbl6 := Blk.new wr 67 #[.int .i64 (a : Int), .slice X xn xc] rfl
      have hbx := hb.alloc (.cells #[.int .i64 (a : Int), .slice X xn xc] 67)
      have hd0 := hd.alloc (.cells #[.int .i64 (a : Int), .slice X xn xc] 67)
      have hT0 : Tn g (g + 3) w (wr.alloc (.cells #[.int .i64 (a : Int), .slice X xn xc] 67)) := ht.trans (Tn.alloc _ _)
      have hz0 : wr.heap.size + 1 = (wr.alloc (.cells #[.int .i64 (a : Int), .slice X xn xc] 67)).heap.size := by simp
      generalize (wr.alloc (.cells #[.int .i64 (a : Int), .slice X xn xc] 67)) = w1 at *
      have h62 := hbl6.keep hb2
      have c61 := h62.cell (j := 1) (u := .slice X xn xc) rfl
      have hbx2 := hbx.below hb2
      go_region_held3 (fun w' => w'.cell? ⟨wr.heap.size, 1, none⟩ = some (.slice X xn xc))
        (first | go_keep | exact c61 | exact ht3.cell c61 (.inl (by show wr.heap.size < w1.heap.size; omega)))
        (first
          | (refine upon_copy_blk _ 36 _ w1.heap.size 92 (Value.agg (bvs row0).toArray).cells (show Blk w2.drew _ _ _ from hk2) 5 Try.underlying36 size_u8 48 48 rfl X xn xc x (show Bs w2.drew _ _ _ from hbx2) (fun e => (hX e).1) (by omega) ?_
             intro z w3 hk3 ht3))
      have hk3' : Blk w3 w1.heap.size 92 (bvs (rowOf x)).toArray := by
        have := hk3
        rwa [show (Value.agg (bvs row0).toArray).cells.toList = bvs row0 from rfl, row_eq Hxn.out] at this
      have h63 := ht3.blk (show Blk w2.drew _ _ _ from h62) (.inl (by omega))
      have c60 := h63.cell (j := 0) (u := .int .i64 (a : Int)) rfl
      have hd3 : Dk w3 g s1 := ((hd0.below hb2).drew).tn ht3 (.inl (by have := hd0.lt; omega))
      have hT3 : Tn g (g + 3) w w3 := ((hT0.trans (Tn.ofBelow hb2 (Nat.le_refl _))).drewR).new ht3 (by omega)
      have hr3 : (rowOf x).length = 48 := rowOf_length (by rw [← Hxn.out]; omega)
      have hbr := bs_blk hk3'
      rw [hr3] at hbr
      have hl3 := hk3'.lt
      have hl6 := h63.lt
      clear hk3 hk3' ht3 h62 c61 hbx2 hbx hbl6 hd0 hT0 hk2 hb2 hb hc0 hc1 hd ht
      go_wp2_with fail
      have hwr := (Wr.new w3 rfl).below ((Below.refl _ _).alloc (Nat.le_refl _) (.cells #[.int .u64 (a : Int)] 97))
      have hns := Ns.new (w3.alloc (.cells #[.pointer none, .int .i64 0] 95)) [a] (fun z hz => by simp at hz; omega) 97 (g := w3.heap.size + 1) (by simp) (C := #[.int .u64 (a : Int)]) (by simp [nvs]) (n := 1) rfl
      have hd4 := (hd3.alloc (.cells #[.pointer none, .int .i64 0] 95)).alloc (.cells #[.int .u64 (a : Int)] 97)
      have hb4 := (hbr.alloc (.cells #[.pointer none, .int .i64 0] 95)).alloc (.cells #[.int .u64 (a : Int)] 97)
      have hT4 := (hT3.trans (Tn.alloc _ (.cells #[.pointer none, .int .i64 0] 95))).trans (Tn.alloc _ (.cells #[.int .u64 (a : Int)] 97))
      generalize (w3.alloc (.cells #[.pointer none, .int .i64 0] 95)).alloc (.cells #[.int .u64 (a : Int)] 97) = w4 at *
      refine (put_ _ [] _ 1 1 [a] _ hwr hns (Nat.le_refl _) (by omega) (by simp)).mono ?_
      rw [List.nil_append]
      rintro e w5 ⟨rfl, hwr5, hg5⟩
      have hz3 := hT3.size
      have hd5 : Dk w5 g s1 := hd4.tn (Tn.ofGrown hg5 (Nat.le_refl _) (Nat.lt_succ_self _)) (.inl (by omega))
      have hb5 : Bs w5 (some ⟨w1.heap.size, 0, none⟩) 48 (rowOf x) := hb4.grown hg5 (fun q hq e => by injection hq with hq; subst hq; injection e with e; simp only at e; omega)
      have hT5 : Tn g (g + 3) w w5 := hT4.new (Tn.ofGrown hg5 (Nat.le_refl _) (Nat.lt_succ_self _)) hz3
      have hl8 : (numsBytes [a]).length = 8 := by simp [numsBytes_length]
      have hnB : numsBytes [a] ++ rowOf x = noteB a (rowOf x) := by simp [noteB, numsBytes]
      have hz5 := hT5.size
      generalize numsBytes [a] = na at *
      obtain ⟨i0, hi0, hz0', hz1', hz2'⟩ := info_parts info_u8
      have Hz := Lib.hid hz2'
      clear hz2' hwr hns hd4 hb4 hT4 hg5 hd3 hbr hT3
      have hwp : IntKind.i64.wrap (2 + (m : Int)) = ((2 + m : Nat) : Int) := by rw [IntKind.wrap_i64]; omega
      go_wp2_with fail
      go_region_held3 (fun _ => True) (first | go_keep | trivial)
        (first
          | (go_at_call 46; refine (bytes_ _ na _ (hwr5.below ((Below.refl _ _).drew)) (by omega)).mono ?_; rintro e w6 ⟨rfl, hk6, hb6⟩)
          | (refine step_app _ rfl (.tmp 29) (.tmp 30) _ rfl w5.heap.size 5 i0 (.int .u8 0) 1 1 Try.underlying36 hi0 hz0' hz1' Hz.out rfl Nat.one_pos (.slice (some ⟨w5.heap.size, 0, none⟩) 8 8) 8 (bvs na) rfl ⟨by rw [bvs_length, hl8], .inr ⟨_, 8, _, rfl, Nat.le_refl _, hk6, Nat.le_refl _, by unfold maxLen; omega, by simp [bvs_length, hl8], by simp only [List.toList_toArray]; exact List.take_of_length_le (by rw [bvs_length, hl8]; omega)⟩⟩ _ 48 48 _ rfl (by simp) (hb5.drew.below hb6) (bvs_one _) (by unfold maxLen; omega) (by omega) hb6.size ?_
             intro v7 w7 hown7 hg7 hat7
             obtain ⟨A7, c7, rfl, hc7, hm7, ha7⟩ := own_form hown7
             rw [← bvs_append, hnB] at hown7
             have hd7 : Dk w7 g s1 := (hd5.drew.below hb6).tn (Tn.ofGrown (lo := w5.heap.size) (hi := w5.heap.size + 1) hg7 (Nat.le_refl _) (Nat.lt_succ_self _)) (.inl (by omega)))
          | (go_at_call 45
             refine (wwrite_ g s1 (2 + m) A7 (8 + 48) c7 (noteB a (rowOf x)) _ hd7 (bs_own hown7) ha7 (by omega)).mono ?_
             rintro e w8 ⟨rfl, h8, ht8⟩))
      rw [show ((2 + m : Nat) : Int) = 2 + (m : Int) by omega] at hw h8
      rw [← hw] at h8 ⊢
      have hT8 : Tn g (g + 3) w w8 := ((hT5.drewR.trans (Tn.ofBelow hb6 (Nat.le_refl _))).new (Tn.ofGrown (lo := w5.heap.size) (hi := w5.heap.size + 1) hg7 (Nat.le_refl _) (Nat.lt_succ_self _)) hz5).trans ht8
      obtain ⟨e2, s2, hr2⟩ : ∃ e2 s2, wrs (noteL (l.take (m + 1))) s = (e2, s2) := ⟨_, _, rfl⟩
      rw [hr2] at h8 ⊢
      have HR := Lib.hid hr2
      clear hr2 hw
      by_cases he : e2 = 0
      · subst he
        go_wp2
        go_roundw
        case rel => exact ⟨m + 1, by omega, by go_num, by rw [HR.out], by rw [HR.out]; exact h8, hT8⟩
        case measure => simp [intOf]; omega
      · have he' : ¬ (e2 : Int) = 0 := by omega
        have hF : wrsF (noteL l) s = (e2, s2) := by
          obtain ⟨l', e⟩ := HS.out (m + 1)
          rw [e, wrsF_stop (by rw [HR.out]; exact he), HR.out]
        have HF := Lib.hid hF
        clear hF he
        go_wp2
        go_ret
        rw [HF.out]
        exact ⟨rfl, h8, hT8⟩
    · obtain rfl : m = n := by omega
      rw [List.take_of_length_le (by rw [← Hn.out]; exact Nat.le_refl _)] at hr0
      have HF := Lib.hid (show wrsF (noteL l) s = s1.flush by rw [wrsF_all (by rw [hr0]), hr0])
      go_wp2_with fail
      refine (flush_ g s1 _ hd).mono ?_
      rintro e w2 ⟨rfl, h2, ht2⟩
      go_wp2
      go_ret
      rw [HF.out]
      exact ⟨rfl, h2, ht.trans ht2⟩
end Go.Proofs.Ytlpbdnncbinbmaa

/- The document's disk: New. -/
import Derived.Deep.RegionHeld3
import Derived.Test.YtbppkdfmiegipaaRefS
namespace Go.Proofs.Ytbppkdfmiegipaa
open Go.RowKit Go.Maps

theorem info_bytes : (Try.prog.info? 34).map (fun i => (i.zero, i.size, i.bytes)) = some (some (.slice none 0 0), 1, 24) := by kernel_rfl
theorem info_bool : (Try.prog.info? 4).map (fun i => (i.zero, i.size, i.bytes)) = some (some (.bool false), 1, 1) := by kernel_rfl

set_option maxRecDepth 100000 in
theorem rnew_bad (k : Int) (w : World) (hk : ¬ (1 ≤ k ∧ k ≤ 256)) : Calls Try.prog 10 #[.int .i64 k] w fun e w' => e = .returned (.tuple #[.agg #[.slice none 0 0, .slice none 0 0, .slice none 0 0, .bool false, .int .i64 0], .int .i64 1]) ∧ Below w.heap.size w w' := by
  by_cases h1 : k < 1
  · clear hk
    go_enter Try.func10, Try.ntmps10
    go_wp2
    have hrow := (Blk.new w 30 #[.slice none 0 0, .slice none 0 0, .slice none 0 0, .bool false, .int .i64 0] rfl)
    have hld := run_loadVar_row (P := Try.prog) _ w.heap.size _ 30 _ (0, 0) _ hrow Try.underlying30 rfl (by kernel_rfl)
    refine bodyPost_ret (v := .tuple #[.agg #[.slice none 0 0, .slice none 0 0, .slice none 0 0, .bool false, .int .i64 0], .int .i64 1]) ?_ rfl ⟨rfl, (Below.refl _ _).alloc (Nat.le_refl _) _⟩
    rw [results_cell_tmp rfl]
    simp [asAddr, Result.andThen, hld]
  · have h2 : (256 : Int) < k := by omega
    clear hk
    go_enter Try.func10, Try.ntmps10
    go_wp2
    have hrow := (Blk.new w 30 #[.slice none 0 0, .slice none 0 0, .slice none 0 0, .bool false, .int .i64 0] rfl)
    have hld := run_loadVar_row (P := Try.prog) _ w.heap.size _ 30 _ (0, 0) _ hrow Try.underlying30 rfl (by kernel_rfl)
    refine bodyPost_ret (v := .tuple #[.agg #[.slice none 0 0, .slice none 0 0, .slice none 0 0, .bool false, .int .i64 0], .int .i64 1]) ?_ rfl ⟨rfl, (Below.refl _ _).alloc (Nat.le_refl _) _⟩
    rw [results_cell_tmp rfl]
    simp [asAddr, Result.andThen, hld]

/-- The document's disk is being made: i sectors of n have come, and j of the cache. -/
structure NewAt (w wr : World) (n i j : Nat) (vp vc : Value) (ds : List Nat) : Prop where
  self : Blk wr (w.heap.size + 1 + 1) 30 #[vp, vc, .slice (some ⟨w.heap.size + 1, 0, none⟩) n n, .bool true, .int .i64 (-1)]
  cell : Blk wr w.heap.size 30 #[.slice none 0 0, .slice none 0 0, .slice none 0 0, .bool false, .int .i64 0]
  flags : Blk wr (w.heap.size + 1) 4 (madeCells #[.bool false] (n * 1))
  plate : wr.ownsRow (w.heap.size + 3) 34 1 vp i (ds.map fun d => .slice (some ⟨d, 0, none⟩) 64 64)
  cache : wr.ownsRow (w.heap.size + 3) 34 1 vc j (List.replicate j (.slice none 0 0))
  apart : ∀ b, vp.ownBlock = some b → vc.ownBlock ≠ some b
  bytes : ∀ d ∈ ds, Blk wr d 5 (bvs zeros).toArray ∧ w.heap.size + 3 ≤ d ∧ vp.ownBlock ≠ some d ∧ vc.ownBlock ≠ some d
  below : Below w.heap.size w wr
theorem NewAt.keep {w wr w' : World} {n i j : Nat} {vp vc : Value} {ds : List Nat} (h : NewAt w wr n i j vp vc ds) (hb : Below wr.heap.size wr w') : NewAt w w' n i j vp vc ds :=
  ⟨h.self.keep hb, h.cell.keep hb, h.flags.keep hb, own_keep h.plate hb, own_keep h.cache hb, h.apart, fun d hd => by obtain ⟨h1, h2⟩ := h.bytes d hd; exact ⟨h1.keep hb, h2⟩, h.below.trans (hb.mono h.below.size)⟩
/-- A sector has come. -/
theorem NewAt.plate1 {w w7 w8 : World} {n i j : Nat} {vp vc v8 : Value} {ds : List Nat} {d : Nat} {o : Obj} {ps : List Value} (h : NewAt w w7 n i j vp vc ds) (hk : Blk w7 d 5 (bvs zeros).toArray) (hd : w.heap.size + 3 ≤ d) (hdp : vp.ownBlock ≠ some d) (hdc : vc.ownBlock ≠ some d)
    (hg : (w7.alloc o).grownBy w8 vp.ownBlock) (hps : ps = (ds ++ [d]).map fun d => .slice (some ⟨d, 0, none⟩) 64 64) (hown : w8.ownsRow (w.heap.size + 3) 34 1 v8 (i + 1) ps) (hat : v8.ownBlock = vp.ownBlock ∨ v8.ownBlock = some (w7.alloc o).heap.size) :
    NewAt w (w8.setCell ⟨w.heap.size + 1 + 1, 0, none⟩ v8) n (i + 1) j v8 vc (ds ++ [d]) := by
  subst hps
  have hp3 : ∀ b, vp.ownBlock = some b → w.heap.size + 3 ≤ b ∧ b < w7.heap.size := fun b hb => h.plate.lt b hb
  have hc3 : ∀ b, vc.ownBlock = some b → w.heap.size + 3 ≤ b ∧ b < w7.heap.size := fun b hb => h.cache.lt b hb
  have h83 : ∀ b, v8.ownBlock = some b → w.heap.size + 3 ≤ b := fun b hb => (hown.lt b hb).1
  have hsz : (w7.alloc o).heap.size = w7.heap.size + 1 := by simp
  have gs := grown_setCell w8 ⟨w.heap.size + 1 + 1, 0, none⟩ v8
  have keepB : ∀ {b : Nat} {t : TypeId} {cs : Array Value}, Blk w7 b t cs → b ≠ w.heap.size + 1 + 1 → vp.ownBlock ≠ some b → Blk (w8.setCell ⟨w.heap.size + 1 + 1, 0, none⟩ v8) b t cs := fun hb h1 h2 => ((hb.alloc o).grown hg (Ne.symm h2)).grown gs (by simpa using h1)
  refine ⟨?_, keepB h.cell (by omega) (fun e => by have := hp3 _ e; omega), keepB h.flags (by omega) (fun e => by have := hp3 _ e; omega), hown.kept gs (.inr fun e => by have := h83 _ e; simp only at this; omega), ?_, fun b hb hcb => ?_, fun d' hd' => ?_, ?_⟩
  · exact ((h.self.alloc o).grown hg (fun e => by have := hp3 _ e.symm; omega)).setCell 0 v8
  · refine ((h.cache.alloc o).kept hg ?_).kept gs (.inr fun e => by have := hc3 _ e; simp only at this; omega)
    cases hv : vc.ownBlock with
    | none => exact .inl rfl
    | some b => exact .inr fun e => h.apart b e.symm hv
  · rcases hat with e | e
    · exact h.apart b (e ▸ hb) hcb
    · rw [e] at hb; injection hb with hb; have := hc3 b hcb; omega
  · rcases List.mem_append.1 hd' with hd' | hd'
    · obtain ⟨b1, b2, b3, b4⟩ := h.bytes d' hd'
      have hl := b1.lt
      refine ⟨keepB b1 (by omega) b3, b2, fun e => ?_, b4⟩
      rcases hat with e' | e'
      · exact b3 (e' ▸ e)
      · rw [e'] at e; injection e with e; omega
    · obtain rfl := List.mem_singleton.1 hd'
      have hl := hk.lt
      refine ⟨keepB hk (by omega) hdp, hd, fun e => ?_, hdc⟩
      rcases hat with e' | e'
      · exact hdp (e' ▸ e)
      · rw [e'] at e; injection e with e; omega
  · refine (h.below.alloc h.below.size o).trans (Below.trans (grown_below hg (by have := h.below.size; simp; omega) fun b hb => by have := hp3 b hb; omega) ?_)
    exact grown_below gs (by have := h.below.size; have := hg.size; simp at this; omega) fun b hb => by injection hb with hb; simp only at hb; omega
/-- A place of the cache has come. -/
theorem NewAt.cache1 {w w7 w8 : World} {n i j : Nat} {vp vc v8 : Value} {ds : List Nat} {o : Obj} {ps : List Value} (h : NewAt w w7 n i j vp vc ds)
    (hg : (w7.alloc o).grownBy w8 vc.ownBlock) (hps : ps = List.replicate (j + 1) (.slice none 0 0)) (hown : w8.ownsRow (w.heap.size + 3) 34 1 v8 (j + 1) ps) (hat : v8.ownBlock = vc.ownBlock ∨ v8.ownBlock = some (w7.alloc o).heap.size) :
    NewAt w (w8.setCell ⟨w.heap.size + 1 + 1, 1, none⟩ v8) n i (j + 1) vp v8 ds := by
  subst hps
  have hp3 : ∀ b, vp.ownBlock = some b → w.heap.size + 3 ≤ b ∧ b < w7.heap.size := fun b hb => h.plate.lt b hb
  have hc3 : ∀ b, vc.ownBlock = some b → w.heap.size + 3 ≤ b ∧ b < w7.heap.size := fun b hb => h.cache.lt b hb
  have h83 : ∀ b, v8.ownBlock = some b → w.heap.size + 3 ≤ b := fun b hb => (hown.lt b hb).1
  have hsz : (w7.alloc o).heap.size = w7.heap.size + 1 := by simp
  have gs := grown_setCell w8 ⟨w.heap.size + 1 + 1, 1, none⟩ v8
  have keepB : ∀ {b : Nat} {t : TypeId} {cs : Array Value}, Blk w7 b t cs → b ≠ w.heap.size + 1 + 1 → vc.ownBlock ≠ some b → Blk (w8.setCell ⟨w.heap.size + 1 + 1, 1, none⟩ v8) b t cs := fun hb h1 h2 => ((hb.alloc o).grown hg (Ne.symm h2)).grown gs (by simpa using h1)
  refine ⟨?_, keepB h.cell (by omega) (fun e => by have := hc3 _ e; omega), keepB h.flags (by omega) (fun e => by have := hc3 _ e; omega), ?_, hown.kept gs (.inr fun e => by have := h83 _ e; simp only at this; omega), fun b hb hcb => ?_, fun d' hd' => ?_, ?_⟩
  · exact ((h.self.alloc o).grown hg (fun e => by have := hc3 _ e.symm; omega)).setCell 1 v8
  · refine ((h.plate.alloc o).kept hg ?_).kept gs (.inr fun e => by have := hp3 _ e; simp only at this; omega)
    cases hv : vp.ownBlock with
    | none => exact .inl rfl
    | some b => exact .inr fun e => h.apart b hv e.symm
  · rcases hat with e | e
    · exact h.apart b hb (e ▸ hcb)
    · rw [e] at hcb; injection hcb with hcb; have := hp3 b hb; omega
  · obtain ⟨b1, b2, b3, b4⟩ := h.bytes d' hd'
    have hl := b1.lt
    refine ⟨keepB b1 (by omega) b4, b2, b3, fun e => ?_⟩
    rcases hat with e' | e'
    · exact b4 (e' ▸ e)
    · rw [e'] at e; injection e with e; omega
  · refine (h.below.alloc h.below.size o).trans (Below.trans (grown_below hg (by have := h.below.size; simp; omega) fun b hb => by have := hc3 b hb; omega) ?_)
    exact grown_below gs (by have := h.below.size; have := hg.size; simp at this; omega) fun b hb => by injection hb with hb; simp only at hb; omega

theorem own_blk {w : World} {base : Nat} {e : TypeId} {A : Option Addr} {n c : Nat} {xs : List Value} (h : w.ownsRow base e 1 (.slice A n c) n xs) (hn : 0 < n) : ∃ b cur, A = some ⟨b, 0, none⟩ ∧ base ≤ b ∧ Blk w b e cur ∧ n ≤ c ∧ c ≤ 9223372036854775807 ∧ ∀ j, j < n → cur[j]? = xs[j]? := by
  rcases h.2 with ⟨e1, _⟩ | ⟨g, cap, cur, hv, hb, hh, h1, h2, h3, h4⟩
  · injection e1 with _ e1 _; omega
  · injection hv with hA hn' hc
    subst hc
    refine ⟨g, cur, hA, hb, hh, h1, by unfold maxLen at h2; exact h2, fun j hj => ?_⟩
    rw [← h4, List.getElem?_take, if_pos (by omega)]
    simp
/-- What has been made is the document's disk, wherever it is laid. -/
theorem NewAt.done {w wr w9 : World} {n : Nat} {Ap Ac : Option Addr} {cp cc : Nat} {ds : List Nat} (h : NewAt w wr n n n (.slice Ap n cp) (.slice Ac n cc) ds) (h0 : 0 < n) (h256 : n ≤ 256) (ht : Tn w.heap.size (w.heap.size + 1) wr w9) :
    ∃ G : RG, RkC G (DS.fresh n) = #[.slice Ap n cp, .slice Ac n cc, .slice (some ⟨w.heap.size + 1, 0, none⟩) n n, .bool true, .int .i64 (-1)] ∧ w.heap.size = G.lo ∧
      ∀ w'' rb, Below w9.heap.size w9 w'' → w9.heap.size ≤ rb → Blk w'' rb 30 (RkC G (DS.fresh n)) → Rk w'' { G with rb := rb } (DS.fresh n) := by
  obtain ⟨pb, curp, rfl, hpb, hbp, hpc1, hpc2, hcp⟩ := own_blk h.plate h0
  obtain ⟨cb, curc, rfl, hcb, hbc, hcc1, hcc2, hcc⟩ := own_blk h.cache h0
  have hdl : ds.length = n := by have := h.plate.1; simpa using this
  have hpcb : pb ≠ cb := fun e => h.apart pb rfl (by rw [e]; rfl)
  refine ⟨⟨w.heap.size, pb, cb, w.heap.size + 1, 0, cp, cc⟩, rfl, rfl, fun w'' rb hb hrb hself => ?_⟩
  have hlp := hbp.lt
  have hlc := hbc.lt
  have hlq := h.flags.lt
  have hs9 := ht.size
  have kp := (ht.blk hbp (by omega)).keep hb
  have kc := (ht.blk hbc (by omega)).keep hb
  have kq := (ht.blk h.flags (by omega)).keep hb
  refine ⟨hself, fun j hj => ?_, fun j hj => ?_, fun j hj => ?_, ⟨⟨by simp only; omega, by simp only; omega⟩, ⟨by simp only; omega, by simp only; omega⟩, ⟨by simp only; omega, by simp only; omega⟩, hpcb, by simp only; omega, by simp only; omega⟩, h256, h0, by simp [DS.fresh], ⟨hpc1, hpc2, hcc1, hcc2⟩⟩
  · have hj : j < n := hj
    have hjd : j < ds.length := by omega
    have hc : curp[j]? = some (.slice (some ⟨ds[j], 0, none⟩) 64 64) := by rw [hcp j hj]; simp [hjd]
    obtain ⟨b1, b2, b3, b4⟩ := h.bytes ds[j] (List.getElem_mem hjd)
    have hl := b1.lt
    refine ⟨_, kp.cell hc, kp.free j, ds[j], 64, rfl, Nat.le_refl _, by decide, bs_blk ((ht.blk b1 (by omega)).keep hb), by simp only; omega, fun e => b3 ?_, fun e => b4 ?_, by simp only; omega, by simp only; omega⟩
    · simp only at e; rw [e]; rfl
    · simp only at e; rw [e]; rfl
  · have hj : j < n := hj
    have hc : curc[j]? = some (.slice none 0 0) := by rw [hcc j hj]; simp [List.getElem?_replicate, hj]
    exact ⟨none, 0, 0, kc.cell hc, kc.free j, fun x hx => by simp [DS.fresh] at hx⟩
  · have hj : j < n := hj
    have hc : (madeCells #[.bool false] (n * 1))[j]? = some (.bool false) := by
      simp only [madeCells, Array.getElem?_map]
      rw [Array.getElem?_eq_getElem (by simpa using hj)]
      simp [Nat.mod_one]
    exact ⟨kq.cell hc, kq.free j⟩

set_option maxRecDepth 100000 in
set_option maxHeartbeats 2000000 in
theorem rnew_ (n : Nat) (w : World) (h1 : 0 < n) (h2 : n ≤ 256) : Calls Try.prog 10 #[.int .i64 (n : Int)] w fun e w' => ∃ G : RG, e = .returned (.tuple #[.agg (RkC G (DS.fresh n)), .int .i64 0]) ∧ w.heap.size = G.lo ∧
    (∀ w'' rb, Below w'.heap.size w' w'' → w'.heap.size ≤ rb → Blk w'' rb 30 (RkC G (DS.fresh n)) → Rk w'' { G with rb := rb } (DS.fresh n)) ∧ Below w.heap.size w w' := by
  obtain ⟨ib, hib, hbz0, hbz1, hbz2⟩ := info_parts info_bool
  obtain ⟨iu, hiu, huz0, huz1, huz2⟩ := info_parts info_bytes
  have Hb1 := Lib.hid hbz1
  have Hb2 := Lib.hid hbz2
  have Hu1 := Lib.hid huz1
  have Hu2 := Lib.hid huz2
  clear hbz1 hbz2 huz1 huz2
  go_enter Try.func10, Try.ntmps10
  go_wp2_with (first
    | (at_make
       refine wpList_make_blk _ rfl (.tmp 13) (.tmp 13) 28 rfl 4 ib _ 1 1 Try.underlying28 hib hbz0 Hb1.out Hb2.out .i64 .i64 _ _ n rfl rfl rfl rfl (by omega) (by omega) ?_
       intro w5 hk5 hb5 hs5)
    | fail)
  have hs6 : (w.alloc (.cells #[.slice none 0 0, .slice none 0 0, .slice none 0 0, .bool false, .int .i64 0] 30)).heap.size = w.heap.size + 1 := by simp
  have ha0 := Blk.new w 30 #[.slice none 0 0, .slice none 0 0, .slice none 0 0, .bool false, .int .i64 0] rfl
  have hB0 : Below w.heap.size w (w.alloc (.cells #[.slice none 0 0, .slice none 0 0, .slice none 0 0, .bool false, .int .i64 0] 30)) := (Below.refl _ w).alloc (Nat.le_refl _) _
  generalize (w.alloc (.cells #[.slice none 0 0, .slice none 0 0, .slice none 0 0, .bool false, .int .i64 0] 30)) = w4 at *
  have hd0 := Blk.new w5 30 #[.slice none 0 0, .slice none 0 0, .slice (some ⟨w.heap.size + 1, 0, none⟩) n n, .bool true, .int .i64 (-1)] (g := w.heap.size + 1 + 1) (by omega)
  have hb6 : Below w4.heap.size w4 (w5.alloc (.cells #[.slice none 0 0, .slice none 0 0, .slice (some ⟨w.heap.size + 1, 0, none⟩) n n, .bool true, .int .i64 (-1)] 30)) := hb5.alloc hb5.size _
  have hk6 := hk5.alloc (.cells #[.slice none 0 0, .slice none 0 0, .slice (some ⟨w.heap.size + 1, 0, none⟩) n n, .bool true, .int .i64 (-1)] 30)
  rw [hs6] at hk6
  have hN0 : NewAt w (w5.alloc (.cells #[.slice none 0 0, .slice none 0 0, .slice (some ⟨w.heap.size + 1, 0, none⟩) n n, .bool true, .int .i64 (-1)] 30)) n 0 0 (.slice none 0 0) (.slice none 0 0) [] :=
    ⟨hd0, ha0.keep hb6, hk6, own_nil _ _ _ _, own_nil _ _ _ _, fun b h => by simp [Value.ownBlock] at h, fun d h => by simp at h, hB0.trans (hb6.mono hB0.size)⟩
  generalize w5.alloc (.cells #[.slice none 0 0, .slice none 0 0, .slice (some ⟨w.heap.size + 1, 0, none⟩) n n, .bool true, .int .i64 (-1)] 30) = w6 at *
  clear hk5 hb5 hs5 hs6 ha0 hB0 hd0 hb6 hk6
  obtain ⟨i0, hi0, hz0, hz1, hz2⟩ := info_parts info_u8
  go_loopw [5] (fun iv wr => ∃ (i : Nat) (vp vc : Value) (ds : List Nat), i ≤ n ∧ iv = .int .i64 (i : Int) ∧ NewAt w wr n i i vp vc ds) (fun iv _ => n - (intOf iv).toNat)
  case atStart => exact ⟨0, _, _, [], Nat.zero_le _, rfl, hN0⟩
  case round =>
    obtain ⟨i, vp, vc, ds, hi, rfl, hN⟩ := hrel
    clear hN0
    have c0 := hN.self.cell (j := 0) (u := vp) rfl
    have f0 := hN.self.free 0
    by_cases hlt : i < n
    · have hil : (i : Int) < (n : Int) := by omega
      obtain ⟨Ap, cp, rfl, hcp, hmp, hap⟩ := own_form hN.plate
      obtain ⟨Ac, cc, rfl, hcc, hmc, hac⟩ := own_form hN.cache
      go_wp2_with fail
      refine wp_region_noPanic ?_
      refine wp_region_held_drew (S := fun _ => True) (by kernel_rfl) trivial (fun _ => ?_)
      refine wpAnyH_take (i := 0) (oi := _) (v := ?_) rfl (by kernel_rfl) (by kernel_rfl) (by kernel_rfl) (fun _ _ _ h => h) (Or.inl ⟨by rfl, ?_⟩) trivial ?_
      rotate_left
      · (intro w _; go_simp; (first | done | rfl))
      try simp only [Act.put, List.setIfInBounds_toArray, List.set_cons_zero, List.set_cons_succ]
      refine wpAnyH_ready (rs := [1, 2]) (by kernel_rfl) (by simp) (AllReadyH.cons (o := _) rfl (fun K hK => ?wa) (AllReadyH.cons (o := _) rfl (fun K hK => ?wb) AllReadyH.nil))
      case' wa =>
        go_simp
        refine hK.out _ _ trivial (fun _ => ?_)
        clear hK K
        try simp only [Act.put, List.setIfInBounds_toArray, List.set_cons_zero, List.set_cons_succ]
        refine wpAnyH_ready (rs := [2]) (by kernel_rfl) (by simp) (AllReadyH.cons (o := _) rfl (fun K hK => ?_) AllReadyH.nil)
        go_simp
        refine upon_make _ 34 5 i0 _ 1 1 Try.underlying34 hi0 hz0 hz1 hz2 .i64 .i64 _ _ 64 rfl rfl (by decide) (by decide) ?_
        intro w7 hk7 hb7 hs7
        clear hs7
        have hb7' : Below wr.heap.size wr w7 := ⟨hb7.os, hb7.tape, hb7.output, hb7.size, hb7.block⟩
        have hN7 := hN.keep hb7'
        have c7 := hN7.self.cell (j := 0) (u := .slice Ap i cp) rfl
        have c7b : ∀ o, (w7.alloc o).cell? ⟨w.heap.size + 1 + 1, 0, none⟩ = some (.slice Ap i cp) := fun o => (hN7.self.alloc o).cell (j := 0) rfl
        refine hK.out _ _ trivial (fun _ => ?_)
        clear hK K
        try simp only [Act.put, List.setIfInBounds_toArray, List.set_cons_zero, List.set_cons_succ]
        refine wpAnyH_ready (rs := [3]) (by kernel_rfl) (by simp) (AllReadyH.cons (o := _) rfl (fun K hK => ?_) AllReadyH.nil)
        go_simp
        refine hK.out _ _ trivial (fun _ => ?_)
        clear hK K
        try simp only [Act.put, List.setIfInBounds_toArray, List.set_cons_zero, List.set_cons_succ]
      case' wb =>
        go_simp
        refine upon_make _ 34 5 i0 _ 1 1 Try.underlying34 hi0 hz0 hz1 hz2 .i64 .i64 _ _ 64 rfl rfl (by decide) (by decide) ?_
        intro w7 hk7 hb7 hs7
        clear hs7
        have hb7' : Below wr.heap.size wr w7 := ⟨hb7.os, hb7.tape, hb7.output, hb7.size, hb7.block⟩
        have hN7 := hN.keep hb7'
        have c7 := hN7.self.cell (j := 0) (u := .slice Ap i cp) rfl
        have c7b : ∀ o, (w7.alloc o).cell? ⟨w.heap.size + 1 + 1, 0, none⟩ = some (.slice Ap i cp) := fun o => (hN7.self.alloc o).cell (j := 0) rfl
        refine hK.out _ _ trivial (fun _ => ?_)
        clear hK K
        try simp only [Act.put, List.setIfInBounds_toArray, List.set_cons_zero, List.set_cons_succ]
        refine wpAnyH_ready (rs := [1, 3]) (by kernel_rfl) (by simp) (AllReadyH.cons (o := _) rfl (fun K hK => ?wc) (AllReadyH.cons (o := _) rfl (fun K hK => ?wd) AllReadyH.nil))
        case' wc =>
          go_simp
          refine hK.out _ _ trivial (fun _ => ?_)
          clear hK K
          try simp only [Act.put, List.setIfInBounds_toArray, List.set_cons_zero, List.set_cons_succ]
          refine wpAnyH_ready (rs := [3]) (by kernel_rfl) (by simp) (AllReadyH.cons (o := _) rfl (fun K hK => ?_) AllReadyH.nil)
          go_simp
          refine hK.out _ _ trivial (fun _ => ?_)
          clear hK K
          try simp only [Act.put, List.setIfInBounds_toArray, List.set_cons_zero, List.set_cons_succ]
        case' wd =>
          go_simp
          refine hK.out _ _ trivial (fun _ => ?_)
          clear hK K
          try simp only [Act.put, List.setIfInBounds_toArray, List.set_cons_zero, List.set_cons_succ]
          refine wpAnyH_ready (rs := [1]) (by kernel_rfl) (by simp) (AllReadyH.cons (o := _) rfl (fun K hK => ?_) AllReadyH.nil)
          go_simp
          refine hK.out _ _ trivial (fun _ => ?_)
          clear hK K
          try simp only [Act.put, List.setIfInBounds_toArray, List.set_cons_zero, List.set_cons_succ]
      all_goals
        refine wpAnyH_ready (rs := [4]) (by kernel_rfl) (by simp) (AllReadyH.cons (o := _) rfl (fun K hK => ?_) AllReadyH.nil)
        refine step_app _ rfl (.tmp 22) (.tmp 24) _ rfl (w.heap.size + 3) 34 iu (.slice none 0 0) 1 24 Try.underlying27 hiu huz0 Hu1.out Hu2.out rfl Nat.one_pos (.slice Ap i cp) i _ rfl (hN7.plate.alloc _) _ 1 1 _ rfl (fun h => by cases h) (Rd.new w7 #[.slice (some ⟨wr.heap.size, 0, none⟩) 64 64] 34 (0, 0) (sz := 1) (n := 1) rfl) (by simp [Value.oneCell']) (by unfold maxLen; omega) (by omega) (by have := hN7.self.lt; simp; omega) ?_
        intro v8 w8 hown8 hg8 hat8
        obtain ⟨A8, c8, rfl, hc8, hm8, ha8⟩ := own_form hown8
        have hd8 : Blk w8 (w.heap.size + 1 + 1) 30 _ := (hN7.self.alloc (.cells #[.slice (some ⟨wr.heap.size, 0, none⟩) 64 64] 34)).grown hg8 (by intro e; have := (hN.plate.lt _ e.symm).1; omega)
        have c8' := hd8.cell (j := 0) (u := .slice Ap i cp) rfl
        have f8' := hd8.free 0
        refine hK.out _ _ trivial (fun _ => ?_)
        clear hK K
        try simp only [Act.put, List.setIfInBounds_toArray, List.set_cons_zero, List.set_cons_succ]
        refine wpAnyH_take (i := 5) (oi := _) (v := ?_) rfl (by kernel_rfl) (by kernel_rfl) (by kernel_rfl) (fun _ _ _ h => h) (Or.inl ⟨by rfl, ?_⟩) trivial ?_
        rotate_left
        · (intro w _; go_simp; (first | done | rfl))
        try simp only [Act.put, List.setIfInBounds_toArray, List.set_cons_zero, List.set_cons_succ]
        refine wpAnyH_ready (rs := [6]) (by kernel_rfl) (by simp) (AllReadyH.cons (o := _) rfl (fun K hK => ?_) AllReadyH.nil)
        go_simp
        refine hK.out _ _ trivial (fun _ => ?_)
        clear hK K
        try simp only [Act.put, List.setIfInBounds_toArray, List.set_cons_zero, List.set_cons_succ]
        refine wpAnyH_done (by kernel_rfl) ?_ _
        refine NoPanic.normal ?_
      all_goals
        have hz64 : madeCells (Value.int .u8 0).cells (64 * 1) = (bvs zeros).toArray := by kernel_rfl
        rw [hz64] at hk7
        have hN9 := hN7.plate1 hk7 (by have := hN.self.lt; simp; omega) (fun e => by have := (hN.plate.lt _ e).2; simp at this) (fun e => by have := (hN.cache.lt _ e).2; simp at this) hg8 (by simp) hown8 hat8
        clear hN hN7 hk7 hb7 hb7' hg8 hown8 hat8 hd8 c8' f8' c7 c7b c0 f0 hz64
        generalize (w8.setCell ⟨w.heap.size + 1 + 1, 0, none⟩ (.slice A8 (i + 1) c8)) = w9 at *
        have e1 := hN9.self.cell (j := 1) (u := .slice Ac i cc) rfl
        have g1 := hN9.self.free 1
        have hl9 := hN9.self.lt
        go_wp2_with (first
          | (at_builtin
             refine wpList_app _ rfl (.tmp 28) (.tmp 29) _ rfl (w.heap.size + 3) 34 iu (.slice none 0 0) 1 24 Try.underlying27 hiu huz0 Hu1.out Hu2.out rfl Nat.one_pos (.slice Ac i cc) i _ rfl (hN9.cache.alloc _) _ 1 1 _ rfl (fun h => by cases h) (Rd.new w9 #[.slice none 0 0] 34 (0, 0) (sz := 1) (n := 1) rfl) (by simp [Value.oneCell']) (by unfold maxLen; omega) (by omega) (by simp; omega) ?_
             intro v10 w10 hown10 hg10 hat10
             obtain ⟨A10, c10, rfl, hc10, hm10, ha10⟩ := own_form hown10
             have hd10 : Blk w10 (w.heap.size + 1 + 1) 30 _ := (hN9.self.alloc (.cells #[.slice none 0 0] 34)).grown hg10 (by intro e; have := (hN9.cache.lt _ e.symm).1; omega)
             have c10' := hd10.cell (j := 1) (u := .slice Ac i cc) rfl
             have f10' := hd10.free 1)
          | fail)
        have hN11 := hN9.cache1 hg10 (by simp [List.replicate_succ']) hown10 hat10
        clear hN9 hg10 hown10 hat10 hd10 c10' f10' e1 g1 hl9
        go_roundw
        case rel => exact ⟨i + 1, _, _, _, by omega, by go_num, hN11⟩
        case measure => simp [intOf]; omega
    · have hnl : (n : Int) ≤ (i : Int) := by omega
      obtain rfl : i = n := by omega
      obtain ⟨Ap, cp, rfl, _⟩ := own_form hN.plate
      obtain ⟨Ac, cc, rfl, _⟩ := own_form hN.cache
      clear c0 f0 hi hlt
      go_wp2_with (first
        | (refine wpList_load_mid rfl 30 (.tmp 4) rfl (w.heap.size + 1 + 1) 0 rfl [.slice Ap i cp, .slice Ac i cc, .slice (some ⟨w.heap.size + 1, 0, none⟩) i i, .bool true, .int .i64 (-1)] _ (hN.self.range (o := 0) fun j v hv => by simpa using hv) Try.underlying30 rfl (by kernel_rfl) ?_)
        | (refine wpList_store_blk _ rfl 30 (.tmp 2) (.tmp 32) rfl w.heap.size 30 _ #[.slice Ap i cp, .slice Ac i cc, .slice (some ⟨w.heap.size + 1, 0, none⟩) i i, .bool true, .int .i64 (-1)] hN.cell rfl rfl rfl (by kernel_rfl) (by simp [Value.oneCell']) ?_
           intro w9 hk9 ht9)
        | fail)
      obtain ⟨G, hG1, hG2, hG3⟩ := hN.done h1 h2 ht9
      have hld := run_loadVar_row (P := Try.prog) w9 w.heap.size _ 30 _ (0, 0) _ hk9 Try.underlying30 rfl (by kernel_rfl)
      refine bodyPost_ret (v := .tuple #[.agg #[.slice Ap i cp, .slice Ac i cc, .slice (some ⟨w.heap.size + 1, 0, none⟩) i i, .bool true, .int .i64 (-1)], .int .i64 0]) ?_ rfl ⟨G, by rw [hG1], hG2, hG3, hN.below.trans (ht9.below (Nat.le_refl _) hN.below.size)⟩
      rw [results_cell_tmp rfl]
      simp [asAddr, Result.andThen, hld]
end Go.Proofs.Ytbppkdfmiegipaa

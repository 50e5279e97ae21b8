/- Package wal: settle. -/
import Derived.Test.YtlpbdnncbinbmaaWalD
namespace Go.Proofs.Ytlpbdnncbinbmaa
open Go.RowKit Go.Maps

theorem results_hd {fn : Func} {W : World} {q : Nat} {x y z : Value} {tmps : Array Value} (h : fn.results = #[.cell 2 76]) (h2 : tmps.getD 2 undef = .pointer (some ⟨q, 0, none⟩)) (hb : Blk W q 76 #[x, y, z]) :
    (results fn tmps).run Try.prog W = .ok (.agg #[x, y, z]) W := by
  have d0 := hb.cell (j := 0) rfl
  have d1 := hb.cell (j := 1) rfl
  have d2 := hb.cell (j := 2) rfl
  have h2' : tmps[2]?.getD undef = .pointer (some ⟨q, 0, none⟩) := by simpa using h2
  simp [results, h, h2', go_sem, d0, d1, d2]
theorem results_hd2 {fn : Func} {W : World} {q : Nat} {x y z : Value} {tmps : Array Value} (h : fn.results = #[.cell 2 76, .tmp 3]) (h2 : tmps.getD 2 undef = .pointer (some ⟨q, 0, none⟩)) (hb : Blk W q 76 #[x, y, z]) :
    (results fn tmps).run Try.prog W = .ok (.tuple #[.agg #[x, y, z], tmps.getD 3 undef]) W := by
  have d0 := hb.cell (j := 0) rfl
  have d1 := hb.cell (j := 1) rfl
  have d2 := hb.cell (j := 2) rfl
  have h2' : tmps[2]?.getD undef = .pointer (some ⟨q, 0, none⟩) := by simpa using h2
  simp [results, h, h2', go_sem, d0, d1, d2]
abbrev hdO (t : Nat × Nat × Nat) : Obj := .cells (hdC t) 76
set_option maxRecDepth 100000 in
set_option maxHeartbeats 1000000 in
theorem settle_none (g : Nat) (L : Nat × Nat × Nat) (E : Int) (w : World) (hE : ¬ E = 0 ∨ L.2.2 = 0)
    (hnew : Calls Try.prog 40 #[.pointer (some ⟨g + 2, 0, none⟩)] (w.alloc (hdO (0, 0, 0))) fun e w' => e = .returned (.tuple #[.agg (hdC L), .int .i64 E]) ∧ Below (w.alloc (hdO (0, 0, 0))).heap.size (w.alloc (hdO (0, 0, 0))) w') :
    Calls Try.prog 41 #[.pointer (some ⟨g + 2, 0, none⟩)] w fun e w' => e = .returned (.tuple #[.agg (hdC L), .int .i64 E]) ∧ Below w.heap.size w w' := by
  have hq : Blk (w.alloc (hdO (0, 0, 0))) w.heap.size 76 (hdC (0, 0, 0)) := Blk.new w _ _ rfl
  have hB0 : Below w.heap.size w (w.alloc (hdO (0, 0, 0))) := (Below.refl _ _).alloc (Nat.le_refl _) _
  obtain ⟨L1, L2, L3⟩ := L
  go_enter Try.func41, Try.ntmps41
  go_wp2_with fail
  refine hnew.mono ?_
  rintro e w1 ⟨rfl, hb⟩
  have hB1 := hB0.trans (hb.mono hB0.size)
  have hq1 := hq.keep hb
  have d0 := hq1.cell (j := 0) rfl
  have d1 := hq1.cell (j := 1) rfl
  have d2 := hq1.cell (j := 2) rfl
  have q0 := hq1.free 0
  have q1 := hq1.free 1
  have q2 := hq1.free 2
  have hl := hq1.lt
  by_cases h0 : E = 0
  · have hL3 : L3 = 0 := by rcases hE with h | h; exact absurd h0 h; exact h
    subst h0 hL3
    go_wp2
    refine bodyPost_ret (results_hd2 rfl rfl ((hq1.set3 (.int .i64 (L1 : Int)) (.int .i64 (L2 : Int)) (.int .i64 0)).alloc _)) rfl ?_
    exact ⟨rfl, by go_grown⟩
  · go_wp2
    refine bodyPost_ret (results_hd2 rfl rfl ((hq1.set3 (.int .i64 (L1 : Int)) (.int .i64 (L2 : Int)) (.int .i64 (L3 : Int))).alloc _)) rfl ?_
    exact ⟨rfl, by go_grown⟩
theorem settle_off (g : Nat) (s : DS) (w : World) (h : Dk w g s) (hN : 10 ≤ s.n) (ho : s.on = false) :
    Calls Try.prog 41 #[.pointer (some ⟨g + 2, 0, none⟩)] w fun e w' => e = .returned (.tuple #[hdV 0 0 0, .int .i64 8]) ∧ Below w.heap.size w w' :=
  settle_none g (0, 0, 0) 8 w (.inl (by decide)) (newest_off g s _ (h.alloc _) hN ho)
theorem settle_form (g : Nat) (s : DS) (w : World) (h : Dk w g s) (hN : 10 ≤ s.n) (hu : Up s) (h0 : (lastTwo s.plate).1 = 0) :
    Calls Try.prog 41 #[.pointer (some ⟨g + 2, 0, none⟩)] w fun e w' => e = .returned (.tuple #[hdV 0 0 0, .int .i64 5]) ∧ Below w.heap.size w w' := by
  have hl : s.look = s.plate := funext hu.look
  have e1 := lastTwo_zero h0
  have := newest_on g s (w.alloc (hdO (0, 0, 0))) (h.alloc _) hN hu.on
  rw [hl] at this
  rw [e1, show lastE s.plate = 5 by unfold lastE; rw [if_pos h0]] at this
  exact settle_none g (0, 0, 0) 5 w (.inl (by decide)) this
theorem settle_set (g : Nat) (s : DS) (t n : Nat) (w : World) (h : Dk w g s) (hN : 10 ≤ s.n) (hu : Up s) (hh : Hd s.plate t n 0) (ht : t ≤ topN) (hn : n ≤ topN) :
    Calls Try.prog 41 #[.pointer (some ⟨g + 2, 0, none⟩)] w fun e w' => e = .returned (.tuple #[hdV t n 0, .int .i64 0]) ∧ Below w.heap.size w w' := by
  have hl : s.look = s.plate := funext hu.look
  have e1 := hh.last ht hn
  have h1 := hh.one
  have := newest_on g s (w.alloc (hdO (0, 0, 0))) (h.alloc _) hN hu.on
  rw [hl] at this
  rw [show lastE s.plate = 0 by unfold lastE; rw [e1, if_neg (by simp only; omega)], e1] at this
  exact settle_none g (t, n, 0) 0 w (.inr rfl) this

/-- What settle comes to. -/
def Settled (s : DS) (t n : Nat) (P : Nat → List UInt8) (e : Ending) (s' : DS) : Prop :=
  (∃ t', t ≤ t' ∧ t' ≤ t + 1 ∧ e = .returned (.tuple #[hdV t' n 0, .int .i64 0]) ∧ Up s' ∧ Hd s'.plate t' n 0 ∧ Dat s'.plate s.n P 0) ∨
  (e = .returned (.tuple #[hdV 0 0 0, .int .i64 8]) ∧ 0 ≤ s.fuse ∧ s'.on = false ∧ ∀ keep, ∃ t', t ≤ t' ∧ t' ≤ t + 1 ∧ Jn (s'.woken keep) s.n t' n P)
set_option maxRecDepth 100000 in
set_option maxHeartbeats 4000000 in
theorem settle_todo (g : Nat) (s : DS) (t n k : Nat) (P : Nat → List UInt8) (w : World) (h : Dk w g s) (hN : 10 ≤ s.n) (hu : Up s) (hh : Hd s.plate t n k) (hdt : Dat s.plate s.n P k) (hk0 : 1 ≤ k) (ht : t ≤ topN) (hn : n ≤ topN) :
    Calls Try.prog 41 #[.pointer (some ⟨g + 2, 0, none⟩)] w fun e w' => ∃ s', Dk w' g s' ∧ Tn g (g + 3) w w' ∧ Fz s s' ∧ Settled s t n P e s' := by
  have hq : Blk (w.alloc (hdO (0, 0, 0))) w.heap.size 76 (hdC (0, 0, 0)) := Blk.new w _ _ rfl
  have hB0 : Below w.heap.size w (w.alloc (hdO (0, 0, 0))) := (Below.refl _ _).alloc (Nat.le_refl _) _
  have hlk : s.look = s.plate := funext hu.look
  have e1 := hh.last ht hn
  have h1 := hh.one
  have hkle := hh.kle
  have htop : t ≤ 4611686018427387904 := ht
  have htop2 : n ≤ 4611686018427387904 := hn
  have hnew := newest_on g s (w.alloc (hdO (0, 0, 0))) (h.alloc _) hN hu.on
  rw [hlk] at hnew
  rw [show lastE s.plate = 0 by unfold lastE; rw [e1, if_neg (by simp only; omega)], e1] at hnew
  have hgl := h.lt
  have hT0 : Tn g (g + 3) w (w.alloc (hdO (0, 0, 0))) := Tn.alloc _ _
  go_enter Try.func41, Try.ntmps41
  go_wp2_with fail
  refine hnew.mono ?_
  clear hnew
  rintro e w1 ⟨rfl, hb⟩
  have hB1 := hB0.trans (hb.mono hB0.size)
  have hq1 := hq.keep hb
  have hl1 := hq1.lt
  have hd1 := h.below hB1
  have hk0' : ¬ (k : Int) = 0 := by omega
  clear hq hB0 hb e1 hT0
  have hp1 : Blk (w1.alloc (hdO (t, n, k))) w1.heap.size 76 (hdC (t, n, k)) := Blk.new w1 _ _ rfl
  have hq2 := hq1.alloc (hdO (t, n, k))
  have hd2 := hd1.alloc (hdO (t, n, k))
  have hT2 : Tn g (g + 3) w (w1.alloc (hdO (t, n, k))) := (Tn.ofBelow hB1 (Nat.le_refl _)).trans (Tn.alloc _ _)
  by_cases h7 : k = 7
  · subst h7
    go_wp2_with fail
    generalize (w1.alloc (hdO (t, n, 7))) = w2 at *
    have hran := cleanW hu hh hdt
    refine (clean_ g s w2 hd2 hN).mono ?_
    rintro e w3 ⟨rfl, hd3, ht3⟩
    obtain ⟨R1, s3, hR⟩ : ∃ R1 s3, wrsF (cleanL s.n) s = (R1, s3) := ⟨_, _, rfl⟩
    rw [hR] at hran hd3 ⊢
    clear hR
    have hT3 := hT2.trans ht3
    have hq3 := ht3.blk hq2 (.inr (by omega))
    have hp3 := ht3.blk hp1 (.inr (by omega))
    have hlq := hq3.lt
    have hlp := hp3.lt
    have p0 := hp3.cell (j := 0) (u := .int .i64 (t : Int)) rfl
    have p1 := hp3.cell (j := 1) (u := .int .i64 (n : Int)) rfl
    have p2 := hp3.cell (j := 2) (u := .int .i64 (7 : Int)) rfl
    have hz3 := hT3.size
    clear hq2 hp1 hd2 hT2 ht3 hd1 hq1
    obtain ⟨e0, hup, ⟨hh3, hd0, hdk⟩, hfz⟩ | ⟨e8, hf, hoff, hQ, hfz⟩ := hran
    · simp only at e0 hup hh3 hd0 hdk hfz
      subst e0
      have hn3 := hfz.n
      go_wp2_with fail
      refine (next_ t n 7 n 0 _ (by omega)).mono ?_
      rintro e w4 ⟨rfl, hb4⟩
      have hq4 := hq3.keep hb4
      have hd4 := hd3.below hb4
      have hT4 := hT3.trans (Tn.ofBelow hb4 (Nat.le_refl _))
      have hq5 := hq4.alloc (hdO (t + 1, n, 0))
      have hp5 : Blk (w4.alloc (hdO (t + 1, n, 0))) w4.heap.size 76 (hdC (t + 1, n, 0)) := Blk.new w4 _ _ rfl
      have hd5 := hd4.alloc (hdO (t + 1, n, 0))
      have hT5 : Tn g (g + 3) w (w4.alloc (hdO (t + 1, n, 0))) := hT4.trans (Tn.alloc _ _)
      have hran2 := headW (n' := n) (k' := 0) hup (by omega) hh3 (by rw [hn3]; exact hdk) (by rw [hn3]; exact hd0) ht hn (by omega)
      have hz4 := hT4.size
      go_wp2_with fail
      refine (headWrite_ g s3 (t + 1) n 0 _ hd5 (by omega) (by omega) (by omega) (by omega)).mono ?_
      rintro e w6 ⟨rfl, hd6, ht6⟩
      obtain ⟨R1, s6, hR⟩ : ∃ R1 s6, wrsF [((t + 1) % 2, secOf (headB (t + 1) n 0))] s3 = (R1, s6) := ⟨_, _, rfl⟩
      rw [hR] at hran2 hd6 ⊢
      clear hR
      have hT6 := hT5.trans ht6
      have hq6 := ht6.blk hq5 (.inr (by omega))
      have hp6 := ht6.blk hp5 (.inr (by omega))
      have x0 := hq6.cell (j := 0) (u := .int .i64 0) rfl
      have x1 := hq6.cell (j := 1) (u := .int .i64 0) rfl
      have x2 := hq6.cell (j := 2) (u := .int .i64 0) rfl
      have y0 := hq6.free 0
      have y1 := hq6.free 1
      have y2 := hq6.free 2
      have z0 := hp6.cell (j := 0) (u := .int .i64 ((t + 1 : Nat) : Int)) rfl
      have z1 := hp6.cell (j := 1) (u := .int .i64 (n : Int)) rfl
      have z2 := hp6.cell (j := 2) (u := .int .i64 (0 : Nat)) rfl
      clear hq5 hp5 hd5 hT5 ht6 hq4 hd4 hb4 hd3 hq3 hp3
      obtain ⟨e0, hup6, ⟨hh6, hd60⟩, hfz6⟩ | ⟨e8, hf, hoff, hQ, hfz6⟩ := hran2
      · simp only at e0 hup6 hh6 hd60 hfz6
        subst e0
        go_wp2
        refine bodyPost_ret (results_hd2 rfl rfl (hq6.set3 (.int .i64 ((t + 1 : Nat) : Int)) (.int .i64 (n : Int)) (.int .i64 (0 : Nat)))) rfl ?_
        have hg := Tn.ofGrown (lo := w.heap.size) (hi := w.heap.size + 1) (grown3 w6 w.heap.size (.int .i64 ((t + 1 : Nat) : Int)) (.int .i64 (n : Int)) (.int .i64 (0 : Nat))) (Nat.le_refl _) (Nat.lt_succ_self _)
        rw [hn3] at hd60
        exact ⟨s6, hd6.tn hg (.inl hgl), hT6.new hg (Nat.le_refl _), hfz.trans hfz6, .inl ⟨t + 1, by omega, by omega, rfl, hup6, hh6, hd60⟩⟩
      · simp only at e8 hoff hQ hfz6
        subst e8
        go_wp2
        refine bodyPost_ret (results_hd2 rfl rfl (hq6.set3 (.int .i64 0) (.int .i64 0) (.int .i64 0))) rfl ?_
        have hg := Tn.ofGrown (lo := w.heap.size) (hi := w.heap.size + 1) (grown3 w6 w.heap.size (.int .i64 0) (.int .i64 0) (.int .i64 0)) (Nat.le_refl _) (Nat.lt_succ_self _)
        rw [hn3] at hQ
        refine ⟨s6, hd6.tn hg (.inl hgl), hT6.new hg (Nat.le_refl _), hfz.trans hfz6, .inr ⟨rfl, hfz.neg hf, hoff, fun keep => ?_⟩⟩
        rcases hQ keep with h | h
        · exact ⟨t, Nat.le_refl _, by omega, h⟩
        · exact ⟨t + 1, by omega, Nat.le_refl _, h⟩
    · simp only at e8 hoff hQ hfz
      subst e8
      have x0 := hq3.cell (j := 0) (u := .int .i64 0) rfl
      have x1 := hq3.cell (j := 1) (u := .int .i64 0) rfl
      have x2 := hq3.cell (j := 2) (u := .int .i64 0) rfl
      have y0 := hq3.free 0
      have y1 := hq3.free 1
      have y2 := hq3.free 2
      go_wp2
      refine bodyPost_ret (results_hd2 rfl rfl (hq3.set3 (.int .i64 0) (.int .i64 0) (.int .i64 0))) rfl ?_
      have hg := Tn.ofGrown (lo := w.heap.size) (hi := w.heap.size + 1) (grown3 w3 w.heap.size (.int .i64 0) (.int .i64 0) (.int .i64 0)) (Nat.le_refl _) (Nat.lt_succ_self _)
      exact ⟨s3, hd3.tn hg (.inl hgl), hT3.new hg (Nat.le_refl _), hfz, .inr ⟨rfl, hf, hoff, fun keep => ⟨t, Nat.le_refl _, by omega, hQ keep⟩⟩⟩
  · have hk6 : k ≤ 6 := by omega
    obtain ⟨ats, ha, hab⟩ := hdt.todo hk0 hk6
    go_wp2_with fail
    generalize (w1.alloc (hdO (t, n, k))) = w2 at *
    have hran := redoW hu hh hdt hk0 hk6 ha hab
    refine (redo_ g s k ats P _ hd2 hN hu.on hk6 (fun j hj => ⟨(ha j hj).1, by rw [hlk]; exact (ha j hj).2, hdt.len _ (ha j hj).1⟩)).mono ?_
    rintro e w3 ⟨rfl, hd3, ht3⟩
    obtain ⟨R1, s3, hR⟩ : ∃ R1 s3, wrsF (redoL ats P k) s = (R1, s3) := ⟨_, _, rfl⟩
    rw [hR] at hran hd3 ⊢
    clear hR
    have hT3 := hT2.trans ht3
    have hq3 := ht3.blk hq2 (.inr (by omega))
    have hp3 := ht3.blk hp1 (.inr (by omega))
    have hlq := hq3.lt
    have hlp := hp3.lt
    have p0 := hp3.cell (j := 0) (u := .int .i64 (t : Int)) rfl
    have p1 := hp3.cell (j := 1) (u := .int .i64 (n : Int)) rfl
    have p2 := hp3.cell (j := 2) (u := .int .i64 (k : Int)) rfl
    have hz3 := hT3.size
    clear hq2 hp1 hd2 hT2 ht3 hd1 hq1
    obtain ⟨e0, hup, ⟨hh3, hd0, hdk⟩, hfz⟩ | ⟨e8, hf, hoff, hQ, hfz⟩ := hran
    · simp only at e0 hup hh3 hd0 hdk hfz
      subst e0
      have hn3 := hfz.n
      go_wp2_with fail
      refine (next_ t n k n 0 _ (by omega)).mono ?_
      rintro e w4 ⟨rfl, hb4⟩
      have hq4 := hq3.keep hb4
      have hd4 := hd3.below hb4
      have hT4 := hT3.trans (Tn.ofBelow hb4 (Nat.le_refl _))
      have hq5 := hq4.alloc (hdO (t + 1, n, 0))
      have hp5 : Blk (w4.alloc (hdO (t + 1, n, 0))) w4.heap.size 76 (hdC (t + 1, n, 0)) := Blk.new w4 _ _ rfl
      have hd5 := hd4.alloc (hdO (t + 1, n, 0))
      have hT5 : Tn g (g + 3) w (w4.alloc (hdO (t + 1, n, 0))) := hT4.trans (Tn.alloc _ _)
      have hran2 := headW (n' := n) (k' := 0) hup (by omega) hh3 (by rw [hn3]; exact hdk) (by rw [hn3]; exact hd0) ht hn (by omega)
      have hz4 := hT4.size
      go_wp2_with fail
      refine (headWrite_ g s3 (t + 1) n 0 _ hd5 (by omega) (by omega) (by omega) (by omega)).mono ?_
      rintro e w6 ⟨rfl, hd6, ht6⟩
      obtain ⟨R1, s6, hR⟩ : ∃ R1 s6, wrsF [((t + 1) % 2, secOf (headB (t + 1) n 0))] s3 = (R1, s6) := ⟨_, _, rfl⟩
      rw [hR] at hran2 hd6 ⊢
      clear hR
      have hT6 := hT5.trans ht6
      have hq6 := ht6.blk hq5 (.inr (by omega))
      have hp6 := ht6.blk hp5 (.inr (by omega))
      have x0 := hq6.cell (j := 0) (u := .int .i64 0) rfl
      have x1 := hq6.cell (j := 1) (u := .int .i64 0) rfl
      have x2 := hq6.cell (j := 2) (u := .int .i64 0) rfl
      have y0 := hq6.free 0
      have y1 := hq6.free 1
      have y2 := hq6.free 2
      have z0 := hp6.cell (j := 0) (u := .int .i64 ((t + 1 : Nat) : Int)) rfl
      have z1 := hp6.cell (j := 1) (u := .int .i64 (n : Int)) rfl
      have z2 := hp6.cell (j := 2) (u := .int .i64 (0 : Nat)) rfl
      clear hq5 hp5 hd5 hT5 ht6 hq4 hd4 hb4 hd3 hq3 hp3
      obtain ⟨e0, hup6, ⟨hh6, hd60⟩, hfz6⟩ | ⟨e8, hf, hoff, hQ, hfz6⟩ := hran2
      · simp only at e0 hup6 hh6 hd60 hfz6
        subst e0
        go_wp2
        refine bodyPost_ret (results_hd2 rfl rfl (hq6.set3 (.int .i64 ((t + 1 : Nat) : Int)) (.int .i64 (n : Int)) (.int .i64 (0 : Nat)))) rfl ?_
        have hg := Tn.ofGrown (lo := w.heap.size) (hi := w.heap.size + 1) (grown3 w6 w.heap.size (.int .i64 ((t + 1 : Nat) : Int)) (.int .i64 (n : Int)) (.int .i64 (0 : Nat))) (Nat.le_refl _) (Nat.lt_succ_self _)
        rw [hn3] at hd60
        exact ⟨s6, hd6.tn hg (.inl hgl), hT6.new hg (Nat.le_refl _), hfz.trans hfz6, .inl ⟨t + 1, by omega, by omega, rfl, hup6, hh6, hd60⟩⟩
      · simp only at e8 hoff hQ hfz6
        subst e8
        go_wp2
        refine bodyPost_ret (results_hd2 rfl rfl (hq6.set3 (.int .i64 0) (.int .i64 0) (.int .i64 0))) rfl ?_
        have hg := Tn.ofGrown (lo := w.heap.size) (hi := w.heap.size + 1) (grown3 w6 w.heap.size (.int .i64 0) (.int .i64 0) (.int .i64 0)) (Nat.le_refl _) (Nat.lt_succ_self _)
        rw [hn3] at hQ
        refine ⟨s6, hd6.tn hg (.inl hgl), hT6.new hg (Nat.le_refl _), hfz.trans hfz6, .inr ⟨rfl, hfz.neg hf, hoff, fun keep => ?_⟩⟩
        rcases hQ keep with h | h
        · exact ⟨t, Nat.le_refl _, by omega, h⟩
        · exact ⟨t + 1, by omega, Nat.le_refl _, h⟩
    · simp only at e8 hoff hQ hfz
      subst e8
      have x0 := hq3.cell (j := 0) (u := .int .i64 0) rfl
      have x1 := hq3.cell (j := 1) (u := .int .i64 0) rfl
      have x2 := hq3.cell (j := 2) (u := .int .i64 0) rfl
      have y0 := hq3.free 0
      have y1 := hq3.free 1
      have y2 := hq3.free 2
      go_wp2
      refine bodyPost_ret (results_hd2 rfl rfl (hq3.set3 (.int .i64 0) (.int .i64 0) (.int .i64 0))) rfl ?_
      have hg := Tn.ofGrown (lo := w.heap.size) (hi := w.heap.size + 1) (grown3 w3 w.heap.size (.int .i64 0) (.int .i64 0) (.int .i64 0)) (Nat.le_refl _) (Nat.lt_succ_self _)
      exact ⟨s3, hd3.tn hg (.inl hgl), hT3.new hg (Nat.le_refl _), hfz, .inr ⟨rfl, hf, hoff, fun keep => ⟨t, Nat.le_refl _, by omega, hQ keep⟩⟩⟩
end Go.Proofs.Ytlpbdnncbinbmaa

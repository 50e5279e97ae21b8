/- Layer 17: a coordinator in memory: New, given, enter, decided, awaited, outcome, Phase, State; of one that nobody made. -/
import Derived.Test.YtpjbeodnalgkfaaBarA
import Derived.Test.YtpjbeodnalgkfaaBarP
set_option linter.all false
namespace Go.Proofs.Ytpjbeodnalgkfaa
open Go.RowKit
namespace Bar
abbrev coa (g : Nat) (n : Nat) (ph id : Int) (v : Value) : Array Value := #[.pointer (some ⟨g + 1, 0, none⟩), .int .i64 (n : Int), .int .i64 ph, .int .i64 id, v, .map (some g)]
/-- A slice reads as numbers; its block is one of U. -/
structure Op (w : World) (U : Nat → Prop) (A : Option Addr) (n cp : Nat) (L : List Int) : Prop where
  is : Is w A n L
  cap : n ≤ cp
  top : cp ≤ 9223372036854775807
  rowU : ∀ a, A = some a → U a.block ∧ a.block < w.heap.size
/-- The coordinator at g + 1, its map at g. -/
structure CdX (w : World) (g : Nat) (U : Nat → Prop) (c : Co) (A : Option Addr) (n cp : Nat) : Prop where
  blk : Blk w (g + 1) 80 (coa g c.ans.length c.ph c.id (.slice A n cp))
  mp : Mp w g (c.cm.length + c.ab.length) (endF c)
  opn : Op w U A n cp (openI c)
  out : ¬ U g ∧ ¬ U (g + 1)
  idr : I64 c.id
def Cd (w : World) (g : Nat) (U : Nat → Prop) (c : Co) : Prop := (∃ A n cp, CdX w g U c A n cp) ∧ CoOk c ∧ Few c
section
variable {w w' : World} {g n cp : Nat} {c : Co} {S U U' : Nat → Prop} {A : Option Addr} {L : List Int}
theorem Op.fu (h : Op w U A n cp L) (hf : Fu S w w') (hs : ∀ k, U k → ¬ S k) : Op w' U A n cp L :=
  ⟨bs_fu h.is hf (fun a e => hs _ (h.rowU a e).1), h.cap, h.top, fun a e => ⟨(h.rowU a e).1, Nat.lt_of_lt_of_le (h.rowU a e).2 hf.size⟩⟩
theorem Op.sub (h : Op w U A n cp L) (hu : ∀ k, U k → k < w.heap.size → U' k) : Op w U' A n cp L := ⟨h.is, h.cap, h.top, fun a e => ⟨hu _ (h.rowU a e).1 (h.rowU a e).2, (h.rowU a e).2⟩⟩
theorem CdX.fu (h : CdX w g U c A n cp) (hf : Fu S w w') (hs : ∀ k, U k → ¬ S k) (h0 : ¬ S g) (h1 : ¬ S (g + 1)) : CdX w' g U c A n cp := ⟨blk_fu h.blk hf h1, h.mp.fu hf h0, h.opn.fu hf hs, h.out, h.idr⟩
theorem CdX.sub (h : CdX w g U c A n cp) (hu : ∀ k, U k → k < w.heap.size → U' k) (ho : ¬ U' g ∧ ¬ U' (g + 1)) : CdX w g U' c A n cp := ⟨h.blk, h.mp, h.opn.sub hu, ho, h.idr⟩
theorem Cd.fu (h : Cd w g U c) (hf : Fu S w w') (hs : ∀ k, U k → ¬ S k) (h0 : ¬ S g) (h1 : ¬ S (g + 1)) : Cd w' g U c := by
  obtain ⟨⟨A, n, cp, h⟩, r⟩ := h; exact ⟨⟨A, n, cp, h.fu hf hs h0 h1⟩, r⟩
theorem Cd.sub (h : Cd w g U c) (hu : ∀ k, U k → k < w.heap.size → U' k) (ho : ¬ U' g ∧ ¬ U' (g + 1)) : Cd w g U' c := by
  obtain ⟨⟨A, n, cp, h⟩, r⟩ := h; exact ⟨⟨A, n, cp, h.sub hu ho⟩, r⟩
theorem Cd.keep (h : Cd w g U c) (hb : Below w.heap.size w w') : Cd w' g U c := h.fu (S := fun _ => False) (Fu.ofBelow hb) (fun _ _ e => e) (fun e => e) (fun e => e)
theorem Cd.drewN (h : Cd w g U c) (k : Nat) : Cd (w.drewN k) g U c := h.keep (below_drewN (Below.refl _ _) k)
theorem Cd.lt (h : Cd w g U c) : g + 1 < w.heap.size := by obtain ⟨⟨A, n, cp, h⟩, r⟩ := h; exact h.blk.lt
theorem Cd.ok (h : Cd w g U c) : CoOk c := h.2.1
theorem Cd.few (h : Cd w g U c) : Few c := h.2.2
theorem Cd.outU (h : Cd w g U c) : ¬ U g ∧ ¬ U (g + 1) := by obtain ⟨⟨A, n, cp, h⟩, r⟩ := h; exact h.out
theorem CdX.cells (h : CdX w g U c A n cp) : w.cell? ⟨g + 1, 0, none⟩ = some (.pointer (some ⟨g + 1, 0, none⟩)) ∧ w.cell? ⟨g + 1, 1, none⟩ = some (.int .i64 (c.ans.length : Int)) ∧ w.cell? ⟨g + 1, 2, none⟩ = some (.int .i64 c.ph) ∧ w.cell? ⟨g + 1, 3, none⟩ = some (.int .i64 c.id) ∧ w.cell? ⟨g + 1, 4, none⟩ = some (.slice A n cp) ∧ w.cell? ⟨g + 1, 5, none⟩ = some (.map (some g)) :=
  ⟨h.blk.cell rfl, h.blk.cell rfl, h.blk.cell rfl, h.blk.cell rfl, h.blk.cell rfl, h.blk.cell rfl⟩
end
theorem size_coord : (Try.prog.info? 80).map (·.size) = some 6 := by kernel_rfl
theorem eql_coord (a : Addr) (w : World) : (binOp .eql 37 (.pointer (some a)) (.pointer (some a))).run Try.prog w = .ok (.bool true) w := by
  obtain ⟨j, hj, _⟩ := Option.map_eq_some_iff.1 size_coord
  exact run_eql_ptr_same w a Try.underlying37 hj
theorem eql_coord_none (a : Addr) (w : World) : (binOp .eql 37 (.pointer none) (.pointer (some a))).run Try.prog w = .ok (.bool false) w := by
  have h : ∀ d : Nat, (Op.equalIn (d + 1) 37 (.pointer none) (.pointer (some a))).run Try.prog w = .ok false w := fun d => by
    simp [Op.equalIn, run_underlying Try.underlying37]
  simp only [binOp]
  simp [Op.equal, Op.maxDepth, h 9999]
section
variable (w : World)
set_option maxRecDepth 100000 in
set_option maxHeartbeats 2000000 in
theorem cgiven_ (b : Nat) (c0 : w.cell? ⟨b, 0, none⟩ = some (.pointer (some ⟨b, 0, none⟩))) : Calls Try.prog 43 #[.pointer (some ⟨b, 0, none⟩)] w fun e w' => e = .returned (.bool true) ∧ w = w' := by
  have q := eql_coord ⟨b, 0, none⟩ w
  go_enter Try.func43, Try.ntmps43
  go_wp2
  go_ret
  exact ⟨rfl, rfl⟩
set_option maxRecDepth 100000 in
set_option maxHeartbeats 2000000 in
theorem cgiven_nil : Calls Try.prog 43 #[.pointer none] w fun e w' => e = .returned (.bool false) ∧ w = w' := by
  go_enter Try.func43, Try.ntmps43
  go_wp2
  go_ret
  exact ⟨rfl, rfl⟩
set_option maxRecDepth 100000 in
set_option maxHeartbeats 2000000 in
theorem cgiven_no (b : Nat) (c0 : w.cell? ⟨b, 0, none⟩ = some (.pointer none)) : Calls Try.prog 43 #[.pointer (some ⟨b, 0, none⟩)] w fun e w' => e = .returned (.bool false) ∧ w = w' := by
  have q := eql_coord_none ⟨b, 0, none⟩ w
  go_enter Try.func43, Try.ntmps43
  go_wp2
  go_ret
  exact ⟨rfl, rfl⟩
set_option maxRecDepth 100000 in
set_option maxHeartbeats 2000000 in
theorem cnew_ (n : Nat) (h1 : 1 ≤ n) (h2 : n ≤ 16) : Calls Try.prog 19 #[.int .i64 (n : Int)] w fun e w' => e = .returned (.tuple #[.pointer (some ⟨w.heap.size + 1, 0, none⟩), .int .i64 0]) ∧ Cd w' w.heap.size (fun _ => False) (co0 n) ∧ Below w.heap.size w w' ∧ w'.heap.size = w.heap.size + 2 := by
  have HO := Lib.hid (show CoOk (co0 n) from co0_ok h1)
  have HF := Lib.hid (show Few (co0 n) from few0 h2)
  obtain ⟨w1, hw1⟩ : ∃ w1, w.alloc (.map #[] 0) = w1 := ⟨_, rfl⟩
  have hm : Mp w1 w.heap.size 0 (endF (co0 n)) := by rw [← hw1]; exact (Mp.made w).congr (fun j => by simp [endF, co0])
  have hs1 : w1.heap.size = w.heap.size + 1 := by rw [← hw1]; simp
  have hb1 : Below w.heap.size w w1 := by rw [← hw1]; exact (Below.refl _ _).alloc (Nat.le_refl _) _
  have hmk : (Instr.makeMap 78 none).run Try.prog w = .ok (.map (some w.heap.size)) w1 := by rw [← hw1]; exact run_makeMap _ _
  have hb0 : Blk (w1.alloc (.cells #[.pointer none, .int .i64 (n : Int), .int .i64 0, .int .i64 0, .slice none 0 0, .map (some w.heap.size)] 80)) (w.heap.size + 1) 80 #[.pointer none, .int .i64 (n : Int), .int .i64 0, .int .i64 0, .slice none 0 0, .map (some w.heap.size)] := by rw [← hs1]; exact Blk.new w1 _ _ rfl
  have c0 := hb0.cell (j := 0) (u := .pointer none) rfl
  have f0 := hb0.free 0
  have hb : Blk (w1.alloc (.cells (coa w.heap.size n 0 0 (.slice none 0 0)) 80)) (w.heap.size + 1) 80 (coa w.heap.size n 0 0 (.slice none 0 0)) := by rw [← hs1]; exact Blk.new w1 _ _ rfl
  have hbl : Below w.heap.size w (w1.alloc (.cells (coa w.heap.size n 0 0 (.slice none 0 0)) 80)) := hb1.alloc (by omega) _
  have hm0 := hm.fu (S := fun _ => False) (Fu.ofBelow ((Below.refl _ _).alloc (Nat.le_refl _) (.cells (coa w.heap.size n 0 0 (.slice none 0 0)) 80))) (fun e => e)
  have hs2 : (w1.alloc (.cells (coa w.heap.size n 0 0 (.slice none 0 0)) 80)).heap.size = w.heap.size + 2 := by simp; omega
  have t1 : ¬ (n : Int) < 1 := by omega
  have t2 : ¬ (16 : Int) < (n : Int) := by omega
  clear hw1 hm hb1 hb0
  go_enter Try.func19, Try.ntmps19
  go_wp2
  go_ret2
  refine ⟨rfl, ⟨⟨none, 0, 0, ?_, hm0, ⟨Is.nil, Nat.le_refl _, by omega, fun a e => (by cases e)⟩, ⟨fun e => e, fun e => e⟩, by simp [co0, I64]⟩, HO.out, HF.out⟩, hbl, hs2⟩
  simpa [co0] using hb
set_option maxRecDepth 100000 in
set_option maxHeartbeats 2000000 in
theorem cnew_no (n : Int) (h : n < 1 ∨ 16 < n) : Calls Try.prog 19 #[.int .i64 n] w fun e w' => e = .returned (.tuple #[.pointer none, .int .i64 1]) ∧ w = w' := by
  by_cases h1 : n < 1
  · clear h
    go_enter Try.func19, Try.ntmps19
    go_wp2
    go_ret2
    exact ⟨rfl, rfl⟩
  · have h2 : 16 < n := by omega
    clear h
    go_enter Try.func19, Try.ntmps19
    go_wp2
    go_ret2
    exact ⟨rfl, rfl⟩
set_option maxRecDepth 100000 in
set_option maxHeartbeats 2000000 in
theorem enter_ (g n : Nat) (ph id : Int) (v : Value) (h : Blk w (g + 1) 80 (coa g n ph id v)) (hn : n ≤ 16) (p : Int) : Calls Try.prog 44 #[.pointer (some ⟨g + 1, 0, none⟩), .int .i64 p] w fun e w' => e = .returned (.tuple #[]) ∧ ∃ v', Blk w' (g + 1) 80 (coa g n p id v') ∧ w'.ownsRow w.heap.size 3 1 v' n (ivs (toN n)) ∧ Fu (fun k => k = g + 1) w w' := by
  obtain ⟨i0, hi0, hz0, hz1, hz2⟩ := int_info
  have Hz := Lib.hid hz2
  clear hz2
  have c1 := h.cell (j := 1) (u := .int .i64 (n : Int)) rfl
  have c2 := h.cell (j := 2) (u := .int .i64 ph) rfl
  have c4 := h.cell (j := 4) (u := v) rfl
  have f2 := h.free 2
  have f4 := h.free 4
  have hgl := h.lt
  have h1 : Blk ((w.setCell ⟨g + 1, 2, none⟩ (.int .i64 p)).setCell ⟨g + 1, 4, none⟩ (.slice none 0 0)) (g + 1) 80 (coa g n p id (.slice none 0 0)) := by
    have := (h.setCell 2 (.int .i64 p)).setCell 4 (.slice none 0 0)
    simpa using this
  have hF1 : Fu (fun k => k = g + 1) w ((w.setCell ⟨g + 1, 2, none⟩ (.int .i64 p)).setCell ⟨g + 1, 4, none⟩ (.slice none 0 0)) := fu_set (S := fun k => k = g + 1) (fu_set (S := fun k => k = g + 1) (Fu.refl _ _) _ _ _ rfl) _ _ _ rfl
  have H1 := Lib.hid h1
  have HF1 := Lib.hid hF1
  have k1 := h1.cell (j := 1) (u := .int .i64 (n : Int)) rfl
  clear h h1 hF1
  go_enter Try.func44, Try.ntmps44
  go_wp2
  go_loopw [16] (fun iv wr => ∃ (i : Nat) (v' : Value), i ≤ n ∧ iv = .int .i64 (i : Int) ∧ Blk wr (g + 1) 80 (coa g n p id v') ∧ wr.ownsRow w.heap.size 3 1 v' i (ivs (toN i)) ∧ Fu (fun k => k = g + 1) w wr) (fun iv _ => n - (intOf iv).toNat)
  case atStart => exact ⟨0, .slice none 0 0, Nat.zero_le _, rfl, H1.out, own_nil _ _ _ _, HF1.out⟩
  case round =>
    obtain ⟨i, v', hi, rfl, hB, hown, hF⟩ := hrel
    by_cases hlt : i < n
    · have hil : (i : Int) < (n : Int) := by omega
      have hi0' : (0 : Int) ≤ (i : Int) := by omega
      have hsz := hF.size
      obtain ⟨A, c, rfl, hc, hcm, hcn⟩ := own_form hown
      have d4 := hB.cell (j := 4) (u := .slice A i c) rfl
      have g4 := hB.free 4
      have hrd := (Is.new wr [(i : Int)] 3 (g := wr.heap.size) rfl (C := #[.int .i64 (i : Int)]) rfl (n := 1) rfl)
      have z3 : i + 1 ≤ maxLen := by unfold maxLen; omega
      have z4 : (i + 1) * 8 ≤ 140737488355328 := by omega
      have hapart := blk_ne2 hB hown (by decide)
      have hFa := fu_alloc hF (.cells #[.int .i64 (i : Int)] 3)
      have hBa := hB.keep ((Below.refl _ _).alloc (Nat.le_refl _) (.cells #[.int .i64 (i : Int)] 3))
      have hoa := own_keep hown ((Below.refl _ _).alloc (Nat.le_refl _) (.cells #[.int .i64 (i : Int)] 3))
      have Hsuc := Lib.hid (toN_succ i)
      clear H1 HF1 k1 c1 c2 c4
      go_wp2_with (first
        | (at_builtin
           go_must (refine wpList_app _ rfl (.tmp 23) (.tmp 25) _ rfl w.heap.size 3 i0 _ 1 8 Try.underlying25 hi0 hz0 hz1 Hz.out rfl (by omega) _ i _ rfl hoa (some ⟨wr.heap.size, 0, none⟩) 1 1 (ivs [(i : Int)]) rfl (fun h => by cases h) hrd (ivs_one _) z3 z4 (by simp; omega) ?_)
           intro v3 w3 hown3 hg3 hat3
           rw [← ivs_app, ← Hsuc.out] at hown3
           obtain ⟨A3, c3, rfl, hc3, hcm3, hcn3⟩ := own_form hown3
           have hB3 := hBa.grown hg3 (fun q => hapart q.symm)
           have e4 := hB3.cell (j := 4) (u := .slice A i c) rfl
           have q4 := hB3.free 4
           have hF3 := hFa.step hg3 (fun j q => .inr (hown.lt j q).1))
        | fail)
      go_roundw
      case rel =>
        have hB4 : Blk (w3.setCell ⟨g + 1, 4, none⟩ (.slice A3 (i + 1) c3)) (g + 1) 80 (coa g n p id (.slice A3 (i + 1) c3)) := by
          have := hB3.setCell 4 (.slice A3 (i + 1) c3)
          simpa using this
        have hap3 := blk_ne2 hB3 hown3 (by decide)
        exact ⟨i + 1, .slice A3 (i + 1) c3, by omega, by go_num, hB4, own_grown hown3 (grown_setCell _ _ _) (fun k hk q => by injection q with q; exact hap3 (hk.trans (congrArg some q))), fu_set hF3 _ _ _ rfl⟩
      case measure => simp [intOf]; omega
    · have he : i = n := by omega
      subst he
      have hil : ¬ (i : Int) < (i : Int) := by omega
      clear H1 HF1 k1 c1 c2 c4
      go_wp2
      go_end0
      exact ⟨rfl, v', hB, hown, hF⟩
end
end Bar
end Go.Proofs.Ytpjbeodnalgkfaa

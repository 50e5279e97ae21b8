/- Layer 14: the mathematics of requests that are cut by a map: parts, what they are together, what they do, what they read. Nothing of the program is named here. -/
import Derived.Test.YtdcggnfplfgcnaaSmaM
import Derived.Test.YtdcggnfplfgcnaaBloM
set_option linter.all false
namespace Go.Proofs.Ytdcggnfplfgcnaa
open Go.RowKit
namespace Pla
open Sma (Pc Mp runB run_cons run_nil run_mem run_le)

/-- What of a request lies in a piece. -/
structure Pt where
  pc : Int
  nd : Int
  op : BOp
deriving DecidableEq
def zO : BOp := ⟨0, 0, 0, []⟩
/-- What of an op lies from one block to ahead of another one. -/
def cutO (o : BOp) (f t : Int) : BOp := if o.kind = 1 then ⟨1, f, 0, (o.data.drop (f - o.off).toNat).take (t - f).toNat⟩ else ⟨o.kind, f, t - f, []⟩
def partsL (o : BOp) (n : Int) : Nat → List Pc → List Pt
  | _, [] => []
  | i, p :: l => if max p.fr o.off < min p.en (o.off + n) then ⟨(i : Int), p.nd, cutO o (max p.fr o.off) (min p.en (o.off + n))⟩ :: partsL o n (i + 1) l else partsL o n (i + 1) l
def opsE (m : Mp) (o : BOp) : Int := if m.right = true then (if o.right m.n = true then 0 else 9) else 1
def opsL (m : Mp) (o : BOp) : List Pt := if m.right = true then (if o.right m.n = true then partsL o o.cnt 0 m.ps else []) else []
def rdO (a n : Int) : BOp := ⟨0, a, n, []⟩
def trO (a n : Int) : BOp := ⟨2, a, n, []⟩
def readsE (m : Mp) (a n : Int) : Int := opsE m (trO a n)
def readsL (m : Mp) (a n : Int) : List Pt := if m.right = true then (if (trO a n).right m.n = true then partsL (rdO a n) n 0 m.ps else []) else []
theorem parts_nil (o : BOp) (n : Int) (i : Nat) : partsL o n i [] = [] := rfl
theorem parts_yes {o : BOp} {n : Int} {i : Nat} {p : Pc} {l : List Pc} {f t : Int} (hf : max p.fr o.off = f) (ht : min p.en (o.off + n) = t) (h : f < t) : partsL o n i (p :: l) = ⟨(i : Int), p.nd, cutO o f t⟩ :: partsL o n (i + 1) l := by
  rw [partsL, hf, ht, if_pos h]
theorem parts_no {o : BOp} {n : Int} {i : Nat} {p : Pc} {l : List Pc} {f t : Int} (hf : max p.fr o.off = f) (ht : min p.en (o.off + n) = t) (h : ¬ f < t) : partsL o n i (p :: l) = partsL o n (i + 1) l := by
  rw [partsL, hf, ht, if_neg h]
theorem parts_len (o : BOp) (n : Int) : ∀ (l : List Pc) (i : Nat), (partsL o n i l).length ≤ l.length
  | [], _ => Nat.le_refl _
  | p :: l, i => by
    have := parts_len o n l (i + 1)
    unfold partsL
    split <;> simp <;> omega
theorem parts_mem (o : BOp) (n : Int) {q : Pt} : ∀ {l : List Pc} {i : Nat}, q ∈ partsL o n i l → ∃ (k : Nat) (p : Pc), l[k]? = some p ∧ q.pc = ((i + k : Nat) : Int) ∧ q.nd = p.nd ∧ q.op = cutO o (max p.fr o.off) (min p.en (o.off + n)) ∧ max p.fr o.off < min p.en (o.off + n)
  | [], i, h => by simp [partsL] at h
  | p :: l, i, h => by
    by_cases hc : max p.fr o.off < min p.en (o.off + n)
    · rw [parts_yes rfl rfl hc] at h
      rcases List.mem_cons.1 h with h | h
      · subst h
        exact ⟨0, p, rfl, by simp, rfl, rfl, hc⟩
      · obtain ⟨k, p', h1, h2, h3⟩ := parts_mem o n h
        exact ⟨k + 1, p', by simpa using h1, by rw [h2]; congr 1; omega, h3⟩
    · rw [parts_no rfl rfl hc] at h
      obtain ⟨k, p', h1, h2, h3⟩ := parts_mem o n h
      exact ⟨k + 1, p', by simpa using h1, by rw [h2]; congr 1; omega, h3⟩
theorem parts_rise (o : BOp) (n : Int) : ∀ (l : List Pc) (i : Nat), (partsL o n i l).Pairwise fun a b => a.pc < b.pc
  | [], _ => by simp [partsL]
  | p :: l, i => by
    have ih := parts_rise o n l (i + 1)
    by_cases hc : max p.fr o.off < min p.en (o.off + n)
    · rw [parts_yes rfl rfl hc, List.pairwise_cons]
      refine ⟨fun q hq => ?_, ih⟩
      obtain ⟨k, p', _, h2, _⟩ := parts_mem o n hq
      rw [h2]
      simp only
      omega
    · rw [parts_no rfl rfl hc]
      exact ih
/-! ### one part -/
theorem cut_write {o : BOp} {f t : Int} (h : o.kind = 1) : cutO o f t = ⟨1, f, 0, (o.data.drop (f - o.off).toNat).take (t - f).toNat⟩ := by unfold cutO; rw [if_pos h]
theorem cut_else {o : BOp} {f t : Int} (h : ¬ o.kind = 1) : cutO o f t = ⟨o.kind, f, t - f, []⟩ := by unfold cutO; rw [if_neg h]
theorem cut_kind (o : BOp) (f t : Int) : (cutO o f t).kind = o.kind := by
  by_cases h : o.kind = 1
  · rw [cut_write h, h]
  · rw [cut_else h]
theorem cut_off (o : BOp) (f t : Int) : (cutO o f t).off = f := by
  by_cases h : o.kind = 1
  · rw [cut_write h]
  · rw [cut_else h]
theorem cnt_write {o : BOp} (h : o.kind = 1) : o.cnt = (o.data.length : Int) := by unfold BOp.cnt; rw [if_pos h]
theorem cnt_trim {o : BOp} (h : o.kind = 2) : o.cnt = o.len := by unfold BOp.cnt; rw [if_neg (by omega), if_pos h]
theorem cnt_else {o : BOp} (h : ¬ o.kind = 1) (h2 : ¬ o.kind = 2) : o.cnt = 0 := by unfold BOp.cnt; rw [if_neg h, if_neg h2]
theorem cut_cnt {o : BOp} {N f t : Int} (h : o.Ok N) (hf : o.off ≤ f) (ht : t ≤ o.off + o.cnt) (hft : f < t) : (cutO o f t).cnt = t - f := by
  rcases h.form with ⟨k1, k2, k3⟩ | ⟨k1, k2⟩
  · have hc := cnt_write k1
    rw [cut_write k1, cnt_write rfl]
    simp only [List.length_take, List.length_drop]
    omega
  · rw [cut_else (by omega)]
    exact cnt_trim k1
theorem cut_ok {o : BOp} {N f t : Int} (h : o.Ok N) (hf : o.off ≤ f) (ht : t ≤ o.off + o.cnt) (hft : f < t) : (cutO o f t).Ok N := by
  have h1 := cut_cnt h hf ht hft
  have h2 := cut_off o f t
  have h3 := h.low
  have h4 := h.high
  refine ⟨by omega, by omega, by omega, ?_⟩
  rcases h.form with ⟨k1, k2, k3⟩ | ⟨k1, k2⟩
  · rw [cut_write k1]
    exact .inl ⟨rfl, rfl, by simp only [List.length_take, List.length_drop]; omega⟩
  · rw [cut_else (by omega)]
    exact .inr ⟨k1, rfl⟩
theorem cut_val {o : BOp} {f t x : Int} (hf : o.off ≤ f) (h0 : f ≤ x) (h1 : x < t) : (cutO o f t).val x = o.val x := by
  by_cases h : o.kind = 1
  · rw [cut_write h]
    unfold BOp.val
    rw [if_pos rfl, if_pos h]
    simp only
    unfold List.getD
    rw [List.getElem?_take, if_pos (by omega), List.getElem?_drop]
    congr 3
    omega
  · rw [cut_else h]
    unfold BOp.val
    rw [if_neg h, if_neg h]
theorem cut_at {o : BOp} {N f t x : Int} (h : o.Ok N) (hf : o.off ≤ f) (ht : t ≤ o.off + o.cnt) (hft : f < t) : (cutO o f t).at_ x = true ↔ f ≤ x ∧ x < t := by
  rw [BOp.at_iff, cut_cnt h hf ht hft, cut_off]
  omega
/-! ### what all parts do, in whatever order -/
theorem told_in : ∀ (M : List BOp) (t : Option Nat) (i : Int), (toldIn t M i = t ∧ ∀ x ∈ M, ¬ x.at_ i = true) ∨ ∃ x ∈ M, x.at_ i = true ∧ toldIn t M i = some (x.val i)
  | [], t, i => .inl ⟨rfl, by simp⟩
  | o :: M, t, i => by
    have e : toldIn t (o :: M) i = toldIn (if o.at_ i then some (o.val i) else t) M i := rfl
    rcases told_in M (if o.at_ i then some (o.val i) else t) i with ⟨h1, h2⟩ | ⟨x, h1, h2, h3⟩
    · by_cases h : o.at_ i = true
      · rw [if_pos h] at h1 e
        exact .inr ⟨o, by simp, h, by rw [e, h1]⟩
      · rw [if_neg h] at h1 e
        refine .inl ⟨by rw [e, h1], fun x hx => ?_⟩
        rcases List.mem_cons.1 hx with rfl | hx
        · exact h
        · exact h2 x hx
    · exact .inr ⟨x, by simp [h1], h2, by rw [e, h3]⟩
theorem told_cases (M : List BOp) (i : Int) : (told M i = none ∧ ∀ x ∈ M, ¬ x.at_ i = true) ∨ ∃ x ∈ M, x.at_ i = true ∧ told M i = some (x.val i) := told_in M none i
theorem fold_cover {o : BOp} {M : List BOp} (h1 : ∀ x ∈ M, ∀ i, x.at_ i = true → o.at_ i = true ∧ x.val i = o.val i) (h2 : ∀ i, o.at_ i = true → ∃ x ∈ M, x.at_ i = true) (F : Int → Nat) : M.foldl doF F = doF F o := by
  funext i
  rw [do_told]
  unfold doF
  rcases told_cases M i with ⟨e, hn⟩ | ⟨x, hx, ha, e⟩
  · rw [e, if_neg]
    · rfl
    · intro h
      obtain ⟨x, hx, ha⟩ := h2 i h
      exact hn x hx ha
  · obtain ⟨g1, g2⟩ := h1 x hx i ha
    rw [e, if_pos g1, ← g2]
    rfl
theorem parts_cover {o : BOp} {n N x : Int} : ∀ {l : List Pc} {e : Int} {i : Nat}, runB e N l = true → e ≤ x → o.off ≤ x → x < o.off + n → o.off + n ≤ N → ∃ q ∈ partsL o n i l, ∃ f t, q.op = cutO o f t ∧ o.off ≤ f ∧ t ≤ o.off + n ∧ f ≤ x ∧ x < t
  | [], e, i, h, h1, h2, h3, h4 => by have := run_nil.1 h; omega
  | p :: l, e, i, h, h1, h2, h3, h4 => by
    obtain ⟨k1, k2, k3, k4⟩ := run_cons.1 h
    by_cases hx : x < p.en
    · have hc : max p.fr o.off < min p.en (o.off + n) := by omega
      rw [parts_yes rfl rfl hc]
      exact ⟨_, List.mem_cons_self, _, _, rfl, by omega, by omega, by omega, by omega⟩
    · obtain ⟨q, hq, r⟩ := parts_cover (o := o) (i := i + 1) k4 (by omega) h2 h3 h4
      refine ⟨q, ?_, r⟩
      by_cases hc : max p.fr o.off < min p.en (o.off + n)
      · rw [parts_yes rfl rfl hc]; exact List.mem_cons_of_mem _ hq
      · rw [parts_no rfl rfl hc]; exact hq
theorem part_ok {o : BOp} {N : Int} (h : o.Ok N) {l : List Pc} {i : Nat} {q : Pt} (hq : q ∈ partsL o o.cnt i l) : q.op.Ok N ∧ ∃ f t, q.op = cutO o f t ∧ o.off ≤ f ∧ t ≤ o.off + o.cnt ∧ f < t := by
  obtain ⟨k, p, _, _, _, h4, h5⟩ := parts_mem o o.cnt hq
  rw [h4]
  exact ⟨cut_ok h (by omega) (by omega) h5, _, _, rfl, by omega, by omega, h5⟩
/-- The parts, done one by one in any order, are as the op. -/
theorem done_any {o : BOp} {N : Int} (h : o.Ok N) {l : List Pc} (hr : runB 0 N l = true) {M : List BOp} (hM : ∀ x, x ∈ M ↔ x ∈ (partsL o o.cnt 0 l).map Pt.op) (F : Int → Nat) : M.foldl doF F = doF F o := by
  refine fold_cover (fun x hx i hi => ?_) (fun i hi => ?_) F
  · obtain ⟨q, hq, rfl⟩ := List.mem_map.1 ((hM x).1 hx)
    obtain ⟨_, f, t, e, h1, h2, h3⟩ := part_ok h hq
    rw [e] at hi ⊢
    have := (cut_at h h1 h2 h3).1 hi
    exact ⟨BOp.at_iff.2 (by omega), cut_val h1 this.1 this.2⟩
  · have hi := BOp.at_iff.1 hi
    have := h.low
    obtain ⟨q, hq, f, t, e, h1, h2, h3, h4⟩ := parts_cover (o := o) (n := o.cnt) (i := 0) hr (x := i) (by omega) hi.1 hi.2 h.high
    exact ⟨q.op, (hM _).2 (List.mem_map.2 ⟨q, hq, rfl⟩), by rw [e]; exact (cut_at h h1 h2 (by omega)).2 ⟨h3, h4⟩⟩
/-! ### what parts are together -/
def plainB (o : BOp) : Bool := if o.kind = 1 then decide (o.len = 0) else decide (o.data = [])
def goesB (w o : BOp) : Bool := decide (o.kind = w.kind) && decide (0 ≤ o.off) && decide (o.off ≤ 1024) && decide (o.off = w.off + w.cnt) && plainB o && decide (1 ≤ o.cnt) && decide (o.cnt ≤ 1024 - w.cnt)
def addO (w o : BOp) : BOp := ⟨w.kind, w.off, w.len + o.len, w.data ++ o.data⟩
def startO (o : BOp) : BOp := ⟨o.kind, o.off, 0, []⟩
def wholeGo : BOp → List Pt → BOp × Int
  | w, [] => (w, 0)
  | w, p :: l => if goesB w p.op = true then wholeGo (addO w p.op) l else (zO, 5)
def wholeA : List Pt → BOp × Int
  | [] => (zO, 9)
  | p :: l => wholeGo (startO p.op) (p :: l)
theorem goes_is {w o : BOp} (h : goesB w o = true) : o.kind = w.kind ∧ 0 ≤ o.off ∧ o.off ≤ 1024 ∧ o.off = w.off + w.cnt ∧ plainB o = true ∧ 1 ≤ o.cnt ∧ o.cnt ≤ 1024 - w.cnt := by
  simp only [goesB, Bool.and_eq_true, decide_eq_true_eq] at h
  exact ⟨h.1.1.1.1.1.1, h.1.1.1.1.1.2, h.1.1.1.1.2, h.1.1.1.2, h.1.1.2, h.1.2, h.2⟩
theorem goes_of {w o : BOp} (h : o.kind = w.kind ∧ 0 ≤ o.off ∧ o.off ≤ 1024 ∧ o.off = w.off + w.cnt ∧ plainB o = true ∧ 1 ≤ o.cnt ∧ o.cnt ≤ 1024 - w.cnt) : goesB w o = true := by
  simp only [goesB, Bool.and_eq_true, decide_eq_true_eq]
  exact ⟨⟨⟨⟨⟨⟨h.1, h.2.1⟩, h.2.2.1⟩, h.2.2.2.1⟩, h.2.2.2.2.1⟩, h.2.2.2.2.2.1⟩, h.2.2.2.2.2.2⟩
theorem goes_no {w o : BOp} (h : ¬ o.kind = w.kind ∨ o.off < 0 ∨ 1024 < o.off ∨ ¬ o.off = w.off + w.cnt ∨ plainB o = false ∨ o.cnt < 1 ∨ 1024 - w.cnt < o.cnt) : goesB w o = false := by
  rw [Bool.eq_false_iff]
  intro hg
  obtain ⟨h1, h2, h3, h4, h5, h6, h7⟩ := goes_is hg
  rcases h with h | h | h | h | h | h | h
  · exact h h1
  · omega
  · omega
  · exact h h4
  · rw [h] at h5; cases h5
  · omega
  · omega
theorem go_yes {w : BOp} {p : Pt} {l : List Pt} (h : goesB w p.op = true) : wholeGo w (p :: l) = wholeGo (addO w p.op) l := by rw [wholeGo, if_pos h]
theorem go_no {w : BOp} {p : Pt} {l : List Pt} (h : goesB w p.op = false) : wholeGo w (p :: l) = (zO, 5) := by rw [wholeGo, if_neg (by rw [h]; decide)]
/-- An op that is put together. -/
structure Mid (w : BOp) : Prop where
  low : 0 ≤ w.cnt
  high : w.cnt ≤ 1024
  off : w.cnt = 0 ∨ (0 ≤ w.off ∧ w.off ≤ 1024)
  form : (w.kind = 1 ∧ w.len = 0) ∨ (w.kind = 2 ∧ w.data = []) ∨ (¬ w.kind = 1 ∧ ¬ w.kind = 2 ∧ w.len = 0 ∧ w.data = [])
theorem Mid.len {w : BOp} (h : Mid w) : 0 ≤ w.len ∧ w.len ≤ 1024 ∧ w.data.length ≤ 1024 := by
  have h1 := h.low
  have h2 := h.high
  rcases h.form with ⟨k1, k2⟩ | ⟨k1, k2⟩ | ⟨k1, k2, k3, k4⟩
  · rw [cnt_write k1] at h1 h2; omega
  · rw [cnt_trim k1] at h1 h2; rw [k2]; simp; omega
  · rw [k3, k4]; simp
theorem mid_start (o : BOp) : Mid (startO o) := by
  have hc : (startO o).cnt = 0 := by
    by_cases h1 : o.kind = 1
    · rw [cnt_write (o := startO o) h1]; rfl
    · by_cases h2 : o.kind = 2
      · rw [cnt_trim (o := startO o) h2]; rfl
      · exact cnt_else (o := startO o) h1 h2
  refine ⟨by omega, by omega, .inl hc, ?_⟩
  by_cases h1 : o.kind = 1
  · exact .inl ⟨h1, rfl⟩
  · by_cases h2 : o.kind = 2
    · exact .inr (.inl ⟨h2, rfl⟩)
    · exact .inr (.inr ⟨h1, h2, rfl, rfl⟩)
theorem plain_write {o : BOp} (h : o.kind = 1) : plainB o = decide (o.len = 0) := by unfold plainB; rw [if_pos h]
theorem plain_else {o : BOp} (h : ¬ o.kind = 1) : plainB o = decide (o.data = []) := by unfold plainB; rw [if_neg h]
theorem add_goes {w o : BOp} (h : Mid w) (hg : goesB w o = true) : Mid (addO w o) ∧ (addO w o).cnt = w.cnt + o.cnt := by
  obtain ⟨h1, h2, h3, h4, h5, h6, h7⟩ := goes_is hg
  have hl := h.low
  have key : (addO w o).cnt = w.cnt + o.cnt := by
    by_cases k1 : o.kind = 1
    · rw [cnt_write (o := addO w o) (show w.kind = 1 by omega), cnt_write (o := w) (by omega), cnt_write k1]
      simp only [addO, List.length_append]
      omega
    · by_cases k2 : o.kind = 2
      · rw [cnt_trim (o := addO w o) (show w.kind = 2 by omega), cnt_trim (o := w) (by omega), cnt_trim k2]
        rfl
      · rw [cnt_else k1 k2] at h6; omega
  refine ⟨⟨by omega, by omega, .inr ?_, ?_⟩, key⟩
  · show 0 ≤ w.off ∧ w.off ≤ 1024
    rcases h.off with h | h <;> omega
  · by_cases k1 : o.kind = 1
    · rw [plain_write k1] at h5
      have h5 := of_decide_eq_true h5
      rcases h.form with ⟨m1, m2⟩ | ⟨m1, m2⟩ | ⟨m1, m2, m3, m4⟩
      · exact .inl ⟨m1, by show w.len + o.len = 0; omega⟩
      · omega
      · omega
    · rw [plain_else k1] at h5
      have h5 := of_decide_eq_true h5
      rcases h.form with ⟨m1, m2⟩ | ⟨m1, m2⟩ | ⟨m1, m2, m3, m4⟩
      · omega
      · exact .inr (.inl ⟨m1, by show w.data ++ o.data = []; rw [m2, h5]; rfl⟩)
      · rw [cnt_else (by omega) (by omega)] at h6; omega
/-- So many first blocks of an op. -/
def preO (o : BOp) (k : Int) : BOp := if o.kind = 1 then ⟨1, o.off, 0, o.data.take k.toNat⟩ else ⟨2, o.off, k, []⟩
theorem pre_cnt {o : BOp} {N k : Int} (h : o.Ok N) (h0 : 0 ≤ k) (h1 : k ≤ o.cnt) : (preO o k).cnt = k ∧ (preO o k).off = o.off ∧ (preO o k).kind = o.kind := by
  rcases h.form with ⟨k1, k2, k3⟩ | ⟨k1, k2⟩
  · have hc := cnt_write k1
    unfold preO
    rw [if_pos k1, cnt_write rfl]
    exact ⟨by simp only [List.length_take]; omega, rfl, k1.symm⟩
  · unfold preO
    rw [if_neg (by omega), cnt_trim rfl]
    exact ⟨rfl, rfl, k1.symm⟩
theorem pre_all {o : BOp} {N : Int} (h : o.Ok N) : preO o o.cnt = o := by
  obtain ⟨ok, oo, ol, od⟩ := o
  rcases h.form with ⟨k1, k2, k3⟩ | ⟨k1, k2⟩
  · simp only at k1 k2 k3
    subst k1 k2
    unfold preO
    rw [if_pos rfl, cnt_write rfl]
    simp
  · simp only at k1 k2
    subst k1 k2
    unfold preO
    rw [if_neg (by show ¬ (2 : Int) = 1; omega), cnt_trim rfl]
theorem pre_add {o : BOp} {N x t : Int} (h : o.Ok N) (h0 : o.off ≤ x) (h1 : x < t) (h2 : t ≤ o.off + o.cnt) : addO (preO o (x - o.off)) (cutO o x t) = preO o (t - o.off) := by
  rcases h.form with ⟨k1, k2, k3⟩ | ⟨k1, k2⟩
  · unfold preO addO
    rw [if_pos k1, if_pos k1, cut_write k1]
    simp only [Int.add_zero, BOp.mk.injEq, true_and]
    rw [show (t - o.off).toNat = (x - o.off).toNat + (t - x).toNat by omega, List.take_add]
  · unfold preO addO
    rw [if_neg (by omega), if_neg (by omega), cut_else (by omega)]
    simp only [List.append_nil, BOp.mk.injEq, true_and, and_true]
    omega
theorem plain_cut (o : BOp) (f t : Int) : plainB (cutO o f t) = true := by
  by_cases h : o.kind = 1
  · rw [cut_write h]; rfl
  · rw [cut_else h, plain_else (by exact h)]; rfl
theorem go_parts {o : BOp} {N : Int} (h : o.Ok N) (hN : N ≤ 1024) : ∀ {l : List Pc} {e x : Int} {i : Nat}, runB e N l = true → 0 ≤ e → x = min (max e o.off) (o.off + o.cnt) → wholeGo (preO o (x - o.off)) (partsL o o.cnt i l) = (o, 0)
  | [], e, x, i, hr, h0, hx => by
    have := run_nil.1 hr
    have h1 := h.high
    have h2 := h.some
    have e1 : x - o.off = o.cnt := by omega
    rw [e1, pre_all h]
    rfl
  | p :: l, e, x, i, hr, h0, hx => by
    obtain ⟨k1, k2, k3, k4⟩ := run_cons.1 hr
    have hle := run_le k4
    have h1 := h.high
    have h2 := h.some
    have h3 := h.low
    by_cases hc : max p.fr o.off < min p.en (o.off + o.cnt)
    · have ex : max p.fr o.off = x := by omega
      obtain ⟨t, ht⟩ : ∃ t, min p.en (o.off + o.cnt) = t := ⟨_, rfl⟩
      rw [ex, ht] at hc
      obtain ⟨g1, g2, g3⟩ := pre_cnt h (k := x - o.off) (by omega) (by omega)
      have hcc := cut_cnt h (f := x) (t := t) (by omega) (by omega) hc
      rw [parts_yes ex ht hc, go_yes (goes_of (by
        simp only
        rw [cut_kind, cut_off, hcc, g1, g2, g3]
        exact ⟨rfl, by omega, by omega, by omega, plain_cut _ _ _, by omega, by omega⟩))]
      simp only
      rw [pre_add h (by omega) hc (by omega)]
      exact go_parts h hN k4 (by omega) (by omega)
    · rw [parts_no rfl rfl hc]
      exact go_parts h hN k4 (by omega) (by omega)
theorem whole_parts {o : BOp} {N : Int} (h : o.Ok N) (hN : N ≤ 1024) {l : List Pc} (hr : runB 0 N l = true) : wholeA (partsL o o.cnt 0 l) = (o, 0) := by
  have h1 := h.low
  have h2 := h.some
  have hg := go_parts h hN (i := 0) hr (Int.le_refl 0) (x := o.off) (by omega)
  rw [Int.sub_self] at hg
  obtain ⟨q, hq, _⟩ := parts_cover (o := o) (n := o.cnt) (i := 0) hr (x := o.off) h1 (Int.le_refl _) (by omega) h.high
  generalize partsL o o.cnt 0 l = L at *
  cases L with
  | nil => simp at hq
  | cons p L =>
    cases hp : goesB (preO o 0) p.op with
    | false =>
      rw [go_no hp] at hg
      have := congrArg Prod.snd hg
      simp at this
    | true =>
      obtain ⟨a1, a2, a3, a4, _⟩ := goes_is hp
      obtain ⟨g1, g2, g3⟩ := pre_cnt h (k := 0) (Int.le_refl _) (by omega)
      have es : startO p.op = preO o 0 := by
        have ho : p.op.off = o.off := by omega
        rcases h.form with ⟨m1, m2, m3⟩ | ⟨m1, m2⟩
        · unfold startO preO
          rw [if_pos m1, a1, g3, m1, ho]
          rfl
        · unfold startO preO
          rw [if_neg (by omega), a1, g3, m1, ho]
      show wholeGo (startO p.op) (p :: L) = _
      rw [es]
      exact hg
/-! ### what is read -/
def sl (v : List Nat) (a n : Int) : List Nat := (v.drop a.toNat).take n.toNat
theorem sl_len {v : List Nat} {a n : Int} (h0 : 0 ≤ a) (h1 : 0 ≤ n) (h2 : a + n ≤ v.length) : ((sl v a n).length : Int) = n := by
  unfold sl; simp only [List.length_take, List.length_drop]; omega
theorem sl_app {v : List Nat} {x t y : Int} (h0 : 0 ≤ x) (h1 : x ≤ t) (h2 : t ≤ y) : sl v x (t - x) ++ sl v t (y - t) = sl v x (y - x) := by
  unfold sl
  rw [show (y - x).toNat = (t - x).toNat + (y - t).toNat by omega, List.take_add, List.drop_drop, show x.toNat + (t - x).toNat = t.toNat by omega]
theorem rd_cut (a n f t : Int) : cutO (rdO a n) f t = ⟨0, f, t - f, []⟩ := cut_else (by show ¬ (0 : Int) = 1; omega)
theorem reads_flat {v : List Nat} {a n N : Int} (h0 : 0 ≤ a) (h1 : 1 ≤ n) (h2 : a + n ≤ N) : ∀ {l : List Pc} {e x : Int} {i : Nat}, runB e N l = true → 0 ≤ e → x = min (max e a) (a + n) → ((partsL (rdO a n) n i l).map fun q => sl v q.op.off q.op.len).flatten = sl v x (a + n - x)
  | [], e, x, i, hr, he, hx => by
    have := run_nil.1 hr
    rw [parts_nil, show a + n - x = 0 by omega]
    simp [sl]
  | p :: l, e, x, i, hr, he, hx => by
    obtain ⟨k1, k2, k3, k4⟩ := run_cons.1 hr
    have ha : (rdO a n).off = a := rfl
    by_cases hc : max p.fr a < min p.en (a + n)
    · have ex : max p.fr a = x := by omega
      obtain ⟨t, ht⟩ : ∃ t, min p.en (a + n) = t := ⟨_, rfl⟩
      rw [ex, ht] at hc
      have ih := reads_flat (v := v) h0 h1 h2 (i := i + 1) k4 (by omega) (x := t) (by omega)
      rw [parts_yes (o := rdO a n) (f := x) (t := t) ex ht hc, List.map_cons, List.flatten_cons, ih, rd_cut]
      exact sl_app (v := v) (x := x) (t := t) (y := a + n) (by omega) (by omega) (by omega)
    · rw [parts_no (o := rdO a n) rfl rfl hc]
      exact reads_flat h0 h1 h2 k4 (by omega) (by omega)
theorem tr_ok {a n N : Int} (h : (trO a n).right N = true) : 0 ≤ a ∧ 1 ≤ n ∧ a + n ≤ N := by
  obtain ⟨h, _⟩ := ok_of_right h
  have hc : (trO a n).cnt = n := cnt_trim rfl
  have h1 := h.low
  have h2 := h.high
  have h3 := h.some
  rw [hc] at h2 h3
  exact ⟨h1, h3, h2⟩
def joinE (m : Mp) (a n : Int) (ds : List (List Nat)) : Int := if m.right = true then (if (trO a n).right m.n = true then (if (ds.map fun d => (d.length : Int)) = (readsL m a n).map (fun q => q.op.len) then 0 else 5) else 9) else 1
def joinL (m : Mp) (a n : Int) (ds : List (List Nat)) : List Nat := if joinE m a n ds = 0 then ds.flatten else []
end Pla
end Go.Proofs.Ytdcggnfplfgcnaa

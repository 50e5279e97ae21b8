/- Layer 7: a tree of nodes as it lies in memory; deep, size, grow. -/
import Derived.Test.YtfcfffilfmbpeaaEmpB
import Derived.Test.YtfcfffilfmbpeaaCowM
import Derived.Test.YtfcfffilfmbpeaaTurn
import Derived.Test.YtfcfffilfmbpeaaFn
import Derived.Lib.MinMax
set_option linter.all false
namespace Go.Proofs.Ytfcfffilfmbpeaa
open Go.RowKit

/-- A node's cells. -/
def nd (x : Ext) (al ah : Option Addr) (d s : Nat) : Array Value := #[.int .i64 x.off, .int .i64 x.len, .int .i64 x.phys, .int .i64 x.birth, .pointer al, .pointer ah, .int .i64 (d : Int), .int .i64 (s : Int)]
/-- A pointer reads as a tree; S tells of the nodes that are not new. -/
def Tree (w : World) (S : Nat → Prop) : Option Addr → Tr → Prop
  | a, .nil => a = none
  | a, .node nw lo x hi => ∃ b al ah, a = some ⟨b, 0, none⟩ ∧ Blk w b 126 (nd x al ah (max lo.deep hi.deep + 1) (lo.size + hi.size + 1)) ∧ Fit x ∧ (nw = false → S b) ∧ Tree w S al lo ∧ Tree w S ah hi
theorem Tree.below {w w' : World} {S : Nat → Prop} (hb : Below w.heap.size w w') : ∀ {t : Tr} {a : Option Addr}, Tree w S a t → Tree w' S a t
  | .nil, _, h => h
  | .node _ lo x hi, a, h => by
    obtain ⟨b, al, ah, rfl, h1, h2, h3, h4, h5⟩ := h
    exact ⟨b, al, ah, rfl, h1.keep hb, h2, h3, Tree.below hb h4, Tree.below hb h5⟩
theorem Tree.alloc {w : World} {S : Nat → Prop} {t : Tr} {a : Option Addr} (h : Tree w S a t) (o : Obj) : Tree (w.alloc o) S a t := h.below ((Below.refl _ _).alloc (Nat.le_refl _) _)
theorem Tree.drew {w : World} {S : Nat → Prop} : ∀ {t : Tr} {a : Option Addr}, Tree w S a t → Tree w.drew S a t
  | .nil, _, h => h
  | .node _ lo x hi, a, h => by
    obtain ⟨b, al, ah, rfl, h1, h2, h3, h4, h5⟩ := h
    exact ⟨b, al, ah, rfl, h1, h2, h3, Tree.drew h4, Tree.drew h5⟩
theorem Tree.drewN {w : World} {S : Nat → Prop} : ∀ {t : Tr} {a : Option Addr} (_ : Tree w S a t) (k : Nat), Tree (w.drewN k) S a t
  | .nil, _, h, _ => h
  | .node _ lo x hi, a, h, k => by
    obtain ⟨b, al, ah, rfl, h1, h2, h3, h4, h5⟩ := h
    exact ⟨b, al, ah, rfl, h1, h2, h3, Tree.drewN h4 k, Tree.drewN h5 k⟩
theorem Tree.mono {w : World} {S S' : Nat → Prop} (hS : ∀ b, S b → S' b) : ∀ {t : Tr} {a : Option Addr}, Tree w S a t → Tree w S' a t
  | .nil, _, h => h
  | .node _ lo x hi, a, h => by
    obtain ⟨b, al, ah, rfl, h1, h2, h3, h4, h5⟩ := h
    exact ⟨b, al, ah, rfl, h1, h2, fun e => hS b (h3 e), Tree.mono hS h4, Tree.mono hS h5⟩

theorem blk_type {w : World} {b : Nat} {t t' : TypeId} {cs cs' : Array Value} (h : Blk w b t cs) (k : Blk w b t' cs') : t = t' := by
  have h : w.heap[b]? = _ := h
  have k : w.heap[b]? = _ := k
  rw [h] at k
  injection k with k
  injection k
/-- A block of another type is written. -/
theorem Tree.other {w w' : World} {S : Nat → Prop} {q : Nat} {T : TypeId} {cs : Array Value} (hq : Blk w q T cs) (hT : T ≠ 126) (ht : Tn q (q + 1) w w') : ∀ {t : Tr} {a : Option Addr}, Tree w S a t → Tree w' S a t
  | .nil, _, h => h
  | .node _ lo x hi, a, h => by
    obtain ⟨b, al, ah, rfl, h1, h2, h3, h4, h5⟩ := h
    have hne : b ≠ q := fun e => by subst e; exact hT (blk_type hq h1)
    exact ⟨b, al, ah, rfl, ht.blk h1 (by omega), h2, h3, Tree.other hq hT ht h4, Tree.other hq hT ht h5⟩
theorem Tree.var {w w' : World} {S : Nat → Prop} {q : Nat} {cs : Array Value} (hq : Blk w q 103 cs) (ht : Tn q (q + 1) w w') {t : Tr} {a : Option Addr} (h : Tree w S a t) : Tree w' S a t := h.other hq (by decide) ht
theorem one_ptr (a : Option Addr) : #[Value.pointer a].all (·.oneCell') = true := by simp [Value.oneCell']
/-- A tree in a variable is what is answered. -/
theorem results_tr {fn : Func} {W : World} {s q : Nat} {a : Option Addr} {tmps : Array Value} (h : fn.results = #[.cell s 103]) (h2 : tmps.getD s undef = .pointer (some ⟨q, 0, none⟩)) (hb : Blk W q 103 #[.pointer a]) :
    (results fn tmps).run Try.prog W = .ok (.agg #[.pointer a]) W := by
  have d0 := hb.cell (j := 0) rfl
  have h2' : tmps[s]?.getD undef = .pointer (some ⟨q, 0, none⟩) := by simpa using h2
  simp [results, h, h2', go_sem, d0]

section
variable (w : World) (S : Nat → Prop)
set_option maxRecDepth 100000 in
theorem deep_ (t : Tr) (a : Option Addr) (h : Tree w S a t) : Calls Try.prog 89 #[.agg #[.pointer a]] w fun e w' => e = .returned (.int .i64 (t.deep : Int)) ∧ Below w.heap.size w w' := by
  have hB : Below w.heap.size w (w.alloc (.cells #[.pointer a] 103)) := (Below.refl _ _).alloc (Nat.le_refl _) _
  cases t with
  | nil =>
    have h : a = none := h
    subst h
    go_enter Try.func89, Try.ntmps89
    go_wp2
    go_ret
    exact ⟨rfl, hB⟩
  | node nw lo x hi =>
    obtain ⟨b, al, ah, rfl, h1, -, -, -, -⟩ := h
    have c6 := (h1.alloc (.cells #[.pointer (some ⟨b, 0, none⟩)] 103)).cell (j := 6) (u := .int .i64 ((max lo.deep hi.deep + 1 : Nat) : Int)) rfl
    go_enter Try.func89, Try.ntmps89
    go_wp2
    go_ret
    exact ⟨rfl, hB⟩
set_option maxRecDepth 100000 in
theorem size_ (t : Tr) (a : Option Addr) (h : Tree w S a t) : Calls Try.prog 93 #[.agg #[.pointer a]] w fun e w' => e = .returned (.int .i64 (t.size : Int)) ∧ Below w.heap.size w w' := by
  have hB : Below w.heap.size w (w.alloc (.cells #[.pointer a] 103)) := (Below.refl _ _).alloc (Nat.le_refl _) _
  cases t with
  | nil =>
    have h : a = none := h
    subst h
    go_enter Try.func93, Try.ntmps93
    go_wp2
    go_ret
    exact ⟨rfl, hB⟩
  | node nw lo x hi =>
    obtain ⟨b, al, ah, rfl, h1, -, -, -, -⟩ := h
    have c7 := (h1.alloc (.cells #[.pointer (some ⟨b, 0, none⟩)] 103)).cell (j := 7) (u := .int .i64 ((lo.size + hi.size + 1 : Nat) : Int)) rfl
    go_enter Try.func93, Try.ntmps93
    go_wp2
    go_ret
    exact ⟨rfl, hB⟩

theorem Tr.deep_size : ∀ t : Tr, t.deep ≤ t.size
  | .nil => Nat.le_refl _
  | .node _ lo x hi => by
    have := Tr.deep_size lo
    have := Tr.deep_size hi
    simp only [Tr.deep, Tr.size]
    omega
set_option maxRecDepth 100000 in
set_option maxHeartbeats 2000000 in
theorem grow_ (lo hi : Tr) (al ah : Option Addr) (x : Ext) (hl : Tree w S al lo) (hh : Tree w S ah hi) (fx : Fit x) (hs : lo.size + hi.size ≤ 1000000) :
    Calls Try.prog 91 #[.agg #[.pointer al], .agg #[.int .i64 x.off, .int .i64 x.len, .int .i64 x.phys, .int .i64 x.birth], .agg #[.pointer ah]] w fun e w' => ∃ a, e = .returned (.agg #[.pointer a]) ∧ Tree w' S a (.node true lo x hi) ∧ Below w.heap.size w w' := by
  have hdl := Tr.deep_size lo
  have hdh := Tr.deep_size hi
  obtain ⟨D, hD⟩ : ∃ D : Nat, D = max lo.deep hi.deep + 1 := ⟨_, rfl⟩
  obtain ⟨C, hC⟩ : ∃ C : Nat, C = lo.size + hi.size + 1 := ⟨_, rfl⟩
  obtain ⟨L, hL⟩ : ∃ L : Nat, L = lo.size + 1 := ⟨_, rfl⟩
  have hw1 : IntKind.i64.wrap (1 + max (lo.deep : Int) (hi.deep : Int)) = (D : Int) := by rw [IntKind.wrap_i64]; omega
  have hw2 : IntKind.i64.wrap (1 + (lo.size : Int)) = (L : Int) := by rw [IntKind.wrap_i64]; omega
  have hw3 : IntKind.i64.wrap ((L : Int) + (hi.size : Int)) = (C : Int) := by rw [IntKind.wrap_i64]; omega
  have HD := Lib.hid hD
  have HC := Lib.hid hC
  clear hD hC hL
  obtain ⟨w1, hw1d⟩ : ∃ w1, w1 = (((w.alloc (.cells #[.pointer al] 103)).alloc (.cells #[.int .i64 x.off, .int .i64 x.len, .int .i64 x.phys, .int .i64 x.birth] 77)).alloc (.cells #[.pointer ah] 103)).alloc (.cells #[.pointer none] 103) := ⟨_, rfl⟩
  have b0 : Blk w1 w.heap.size 103 #[.pointer al] := by rw [hw1d]; exact (((Blk.new w _ _ rfl).alloc _).alloc _).alloc _
  have b1 : Blk w1 (w.heap.size + 1) 77 #[.int .i64 x.off, .int .i64 x.len, .int .i64 x.phys, .int .i64 x.birth] := by rw [hw1d]; exact ((Blk.new _ _ _ (by simp)).alloc _).alloc _
  have b2 : Blk w1 (w.heap.size + 1 + 1) 103 #[.pointer ah] := by rw [hw1d]; exact (Blk.new _ _ _ (by simp)).alloc _
  have b3 : Blk w1 (w.heap.size + 1 + 1 + 1) 103 #[.pointer none] := by rw [hw1d]; exact (Blk.new _ _ _ (by simp))
  have hB1 : Below w.heap.size w w1 := by rw [hw1d]; exact ((((Below.refl _ _).alloc (Nat.le_refl _) _).alloc (by simp) _).alloc (by simp; omega) _).alloc (by simp; omega) _
  have hl1 := hl.below hB1
  have hh1 := hh.below hB1
  go_enter Try.func91, Try.ntmps91
  go_wp2_with fail
  rw [← hw1d]
  clear hw1d hdl hdh hs
  generalize hg : w.heap.size = g at *
  have c0 := b0.cell (j := 0) (u := .pointer al) rfl
  have c1 := b1.cell (j := 0) (u := .int .i64 x.off) rfl
  have c2 := b1.cell (j := 1) (u := .int .i64 x.len) rfl
  have c3 := b1.cell (j := 2) (u := .int .i64 x.phys) rfl
  have c4 := b1.cell (j := 3) (u := .int .i64 x.birth) rfl
  have c5 := b2.cell (j := 0) (u := .pointer ah) rfl
  refine wp_region_noPanic ?_
  refine wp_region_held_drew (S := (fun w' => w'.cell? ⟨g, 0, none⟩ = some (.pointer al) ∧ w'.cell? ⟨g + 1, 0, none⟩ = some (.int .i64 x.off) ∧ w'.cell? ⟨g + 1, 1, none⟩ = some (.int .i64 x.len) ∧ w'.cell? ⟨g + 1, 2, none⟩ = some (.int .i64 x.phys) ∧ w'.cell? ⟨g + 1, 3, none⟩ = some (.int .i64 x.birth) ∧ w'.cell? ⟨g + 1 + 1, 0, none⟩ = some (.pointer ah))) (by kernel_rfl) ⟨c0, c1, c2, c3, c4, c5⟩ (fun _ => ?_)
  refine wpAnyH_take (i := 0) (oi := _) (v := ?_) rfl (by kernel_rfl) (by kernel_rfl) (by kernel_rfl) (fun _ _ _ h => h) (Or.inl ⟨by kernel_rfl, ?_⟩) ⟨c0, c1, c2, c3, c4, c5⟩ ?_
  rotate_left
  · (rintro w ⟨s0, s1, s2, s3, s4, s5⟩; go_simp; (first | done | rfl))
  try simp only [Act.put, List.getElem_toArray, List.getElem_cons_zero, List.getElem_cons_succ, List.setIfInBounds_toArray, List.set_cons_zero, List.set_cons_succ]
  refine wpAnyH_take (i := 1) (oi := _) (v := ?_) rfl (by kernel_rfl) (by kernel_rfl) (by kernel_rfl) (fun _ _ _ h => h) (Or.inl ⟨by kernel_rfl, ?_⟩) ⟨c0, c1, c2, c3, c4, c5⟩ ?_
  rotate_left
  · (rintro w ⟨s0, s1, s2, s3, s4, s5⟩; go_simp; (first | done | rfl))
  try simp only [Act.put, List.getElem_toArray, List.getElem_cons_zero, List.getElem_cons_succ, List.setIfInBounds_toArray, List.set_cons_zero, List.set_cons_succ]
  refine wpAnyH_take (i := 2) (oi := _) (v := ?_) rfl (by kernel_rfl) (by kernel_rfl) (by kernel_rfl) (fun _ _ _ h => h) (Or.inl ⟨by kernel_rfl, ?_⟩) ⟨c0, c1, c2, c3, c4, c5⟩ ?_
  rotate_left
  · (rintro w ⟨s0, s1, s2, s3, s4, s5⟩; go_simp; (first | done | rfl))
  try simp only [Act.put, List.getElem_toArray, List.getElem_cons_zero, List.getElem_cons_succ, List.setIfInBounds_toArray, List.set_cons_zero, List.set_cons_succ]
  refine wpAnyH_take (i := 3) (oi := _) (v := ?_) rfl (by kernel_rfl) (by kernel_rfl) (by kernel_rfl) (fun _ _ _ h => h) (Or.inl ⟨by kernel_rfl, ?_⟩) ⟨c0, c1, c2, c3, c4, c5⟩ ?_
  rotate_left
  · (rintro w ⟨s0, s1, s2, s3, s4, s5⟩; go_simp; (first | done | rfl))
  try simp only [Act.put, List.getElem_toArray, List.getElem_cons_zero, List.getElem_cons_succ, List.setIfInBounds_toArray, List.set_cons_zero, List.set_cons_succ]
  refine wpAnyH_take (i := 5) (oi := _) (v := ?_) rfl (by kernel_rfl) (by kernel_rfl) (by kernel_rfl) (fun _ _ _ h => h) (Or.inl ⟨by kernel_rfl, ?_⟩) ⟨c0, c1, c2, c3, c4, c5⟩ ?_
  rotate_left
  · (rintro w ⟨s0, s1, s2, s3, s4, s5⟩; go_simp; (first | done | rfl))
  try simp only [Act.put, List.getElem_toArray, List.getElem_cons_zero, List.getElem_cons_succ, List.setIfInBounds_toArray, List.set_cons_zero, List.set_cons_succ]
  refine wpAnyH_take (i := 9) (oi := _) (v := ?_) rfl (by kernel_rfl) (by kernel_rfl) (by kernel_rfl) (fun _ _ _ h => h) (Or.inl ⟨by kernel_rfl, ?_⟩) ⟨c0, c1, c2, c3, c4, c5⟩ ?_
  rotate_left
  · (rintro w ⟨s0, s1, s2, s3, s4, s5⟩; go_simp; (first | done | rfl))
  try simp only [Act.put, List.getElem_toArray, List.getElem_cons_zero, List.getElem_cons_succ, List.setIfInBounds_toArray, List.set_cons_zero, List.set_cons_succ]
  refine wpAnyH_take (i := 12) (oi := _) (v := ?_) rfl (by kernel_rfl) (by kernel_rfl) (by kernel_rfl) (fun _ _ _ h => h) (Or.inl ⟨by kernel_rfl, ?_⟩) ⟨c0, c1, c2, c3, c4, c5⟩ ?_
  rotate_left
  · (rintro w ⟨s0, s1, s2, s3, s4, s5⟩; go_simp; (first | done | rfl))
  try simp only [Act.put, List.getElem_toArray, List.getElem_cons_zero, List.getElem_cons_succ, List.setIfInBounds_toArray, List.set_cons_zero, List.set_cons_succ]
  refine wpAnyH_ready (rs := [4]) (by kernel_rfl) (by simp) (AllReadyH.cons (o := _) rfl (fun K hK => ?_) AllReadyH.nil)
  go_simp
  go_at_call 89
  refine (deep_ _ S lo al hl1.drew).mono ?_
  rintro e w2 ⟨rfl, hb2⟩
  have hB2 : Below w1.heap.size w1 w2 := below_undrew hb2
  go_wp2_with fail
  refine hK.out _ _ ⟨(b0.keep hB2).cell rfl, (b1.keep hB2).cell rfl, (b1.keep hB2).cell rfl, (b1.keep hB2).cell rfl, (b1.keep hB2).cell rfl, (b2.keep hB2).cell rfl⟩ (fun _ => ?_)
  clear hK K
  try simp only [Act.put, List.getElem_toArray, List.getElem_cons_zero, List.getElem_cons_succ, List.setIfInBounds_toArray, List.set_cons_zero, List.set_cons_succ]
  refine wpAnyH_ready (rs := [6]) (by kernel_rfl) (by simp) (AllReadyH.cons (o := _) rfl (fun K hK => ?_) AllReadyH.nil)
  go_simp
  go_at_call 89
  refine (deep_ _ S hi ah (hh1.below hB2)).mono ?_
  rintro e w3 ⟨rfl, hb3⟩
  have hB3 : Below w1.heap.size w1 w3 := below_step hB2 hb3 (Nat.le_refl _)
  go_wp2_with fail
  refine hK.out _ _ ⟨(b0.keep hB3).cell rfl, (b1.keep hB3).cell rfl, (b1.keep hB3).cell rfl, (b1.keep hB3).cell rfl, (b1.keep hB3).cell rfl, (b2.keep hB3).cell rfl⟩ (fun _ => ?_)
  clear hK K
  try simp only [Act.put, List.getElem_toArray, List.getElem_cons_zero, List.getElem_cons_succ, List.setIfInBounds_toArray, List.set_cons_zero, List.set_cons_succ]
  refine wpAnyH_take (i := 7) (oi := _) (v := ?_) rfl (by kernel_rfl) (by kernel_rfl) (by kernel_rfl) (fun _ _ _ h => h) (Or.inl ⟨by kernel_rfl, ?_⟩) ⟨(b0.keep hB3).cell rfl, (b1.keep hB3).cell rfl, (b1.keep hB3).cell rfl, (b1.keep hB3).cell rfl, (b1.keep hB3).cell rfl, (b2.keep hB3).cell rfl⟩ ?_
  rotate_left
  · (rintro w ⟨s0, s1, s2, s3, s4, s5⟩; go_simp; (first | done | rfl))
  try simp only [Act.put, List.getElem_toArray, List.getElem_cons_zero, List.getElem_cons_succ, List.setIfInBounds_toArray, List.set_cons_zero, List.set_cons_succ]
  refine wpAnyH_take (i := 8) (oi := _) (v := ?_) rfl (by kernel_rfl) (by kernel_rfl) (by kernel_rfl) (fun _ _ _ h => h) (Or.inl ⟨by kernel_rfl, ?_⟩) ⟨(b0.keep hB3).cell rfl, (b1.keep hB3).cell rfl, (b1.keep hB3).cell rfl, (b1.keep hB3).cell rfl, (b1.keep hB3).cell rfl, (b2.keep hB3).cell rfl⟩ ?_
  rotate_left
  · (rintro w ⟨s0, s1, s2, s3, s4, s5⟩; go_simp; (first | done | rfl))
  try simp only [Act.put, List.getElem_toArray, List.getElem_cons_zero, List.getElem_cons_succ, List.setIfInBounds_toArray, List.set_cons_zero, List.set_cons_succ]
  refine wpAnyH_ready (rs := [10]) (by kernel_rfl) (by simp) (AllReadyH.cons (o := _) rfl (fun K hK => ?_) AllReadyH.nil)
  go_simp
  go_at_call 93
  refine (size_ _ S lo al (hl1.below hB3)).mono ?_
  rintro e w4 ⟨rfl, hb4⟩
  have hB4 : Below w1.heap.size w1 w4 := below_step hB3 hb4 (Nat.le_refl _)
  go_wp2_with fail
  refine hK.out _ _ ⟨(b0.keep hB4).cell rfl, (b1.keep hB4).cell rfl, (b1.keep hB4).cell rfl, (b1.keep hB4).cell rfl, (b1.keep hB4).cell rfl, (b2.keep hB4).cell rfl⟩ (fun _ => ?_)
  clear hK K
  try simp only [Act.put, List.getElem_toArray, List.getElem_cons_zero, List.getElem_cons_succ, List.setIfInBounds_toArray, List.set_cons_zero, List.set_cons_succ]
  refine wpAnyH_take (i := 11) (oi := _) (v := ?_) rfl (by kernel_rfl) (by kernel_rfl) (by kernel_rfl) (fun _ _ _ h => h) (Or.inl ⟨by kernel_rfl, ?_⟩) ⟨(b0.keep hB4).cell rfl, (b1.keep hB4).cell rfl, (b1.keep hB4).cell rfl, (b1.keep hB4).cell rfl, (b1.keep hB4).cell rfl, (b2.keep hB4).cell rfl⟩ ?_
  rotate_left
  · (rintro w ⟨s0, s1, s2, s3, s4, s5⟩; go_simp; (first | done | rfl))
  try simp only [Act.put, List.getElem_toArray, List.getElem_cons_zero, List.getElem_cons_succ, List.setIfInBounds_toArray, List.set_cons_zero, List.set_cons_succ]
  refine wpAnyH_ready (rs := [13]) (by kernel_rfl) (by simp) (AllReadyH.cons (o := _) rfl (fun K hK => ?_) AllReadyH.nil)
  go_simp
  go_at_call 93
  refine (size_ _ S hi ah (hh1.below hB4)).mono ?_
  rintro e w5 ⟨rfl, hb5⟩
  have hB5 : Below w1.heap.size w1 w5 := below_step hB4 hb5 (Nat.le_refl _)
  go_wp2_with fail
  refine hK.out _ _ ⟨(b0.keep hB5).cell rfl, (b1.keep hB5).cell rfl, (b1.keep hB5).cell rfl, (b1.keep hB5).cell rfl, (b1.keep hB5).cell rfl, (b2.keep hB5).cell rfl⟩ (fun _ => ?_)
  clear hK K
  try simp only [Act.put, List.getElem_toArray, List.getElem_cons_zero, List.getElem_cons_succ, List.setIfInBounds_toArray, List.set_cons_zero, List.set_cons_succ]
  refine wpAnyH_take (i := 14) (oi := _) (v := ?_) rfl (by kernel_rfl) (by kernel_rfl) (by kernel_rfl) (fun _ _ _ h => h) (Or.inl ⟨by kernel_rfl, ?_⟩) ⟨(b0.keep hB5).cell rfl, (b1.keep hB5).cell rfl, (b1.keep hB5).cell rfl, (b1.keep hB5).cell rfl, (b1.keep hB5).cell rfl, (b2.keep hB5).cell rfl⟩ ?_
  rotate_left
  · (rintro w ⟨s0, s1, s2, s3, s4, s5⟩; go_simp; (first | done | rfl))
  try simp only [Act.put, List.getElem_toArray, List.getElem_cons_zero, List.getElem_cons_succ, List.setIfInBounds_toArray, List.set_cons_zero, List.set_cons_succ]
  refine wpAnyH_take (i := 15) (oi := _) (v := ?_) rfl (by kernel_rfl) (by kernel_rfl) (by kernel_rfl) (fun _ _ _ h => h) (Or.inl ⟨by kernel_rfl, ?_⟩) ⟨(b0.keep hB5).cell rfl, (b1.keep hB5).cell rfl, (b1.keep hB5).cell rfl, (b1.keep hB5).cell rfl, (b1.keep hB5).cell rfl, (b2.keep hB5).cell rfl⟩ ?_
  rotate_left
  · (rintro w ⟨s0, s1, s2, s3, s4, s5⟩; go_simp; (first | done | rfl))
  try simp only [Act.put, List.getElem_toArray, List.getElem_cons_zero, List.getElem_cons_succ, List.setIfInBounds_toArray, List.set_cons_zero, List.set_cons_succ]
  refine wpAnyH_ready (rs := [16]) (by kernel_rfl) (by simp) (AllReadyH.cons (o := _) rfl (fun K hK => ?_) AllReadyH.nil)
  go_simp
  have hB6 : Below w1.heap.size w1 (w5.alloc (.cells #[.int .i64 x.off, .int .i64 x.len, .int .i64 x.phys, .int .i64 x.birth, .pointer al, .pointer ah, .int .i64 (D : Int), .int .i64 (C : Int)] 126)) := hB5.alloc hB5.size _
  have k3 := b3.keep hB6
  have f3 := k3.free 0
  have c6 := k3.cell (j := 0) (u := .pointer none) rfl
  refine hK.out _ _ ⟨(b0.keep hB6).cell rfl, (b1.keep hB6).cell rfl, (b1.keep hB6).cell rfl, (b1.keep hB6).cell rfl, (b1.keep hB6).cell rfl, (b2.keep hB6).cell rfl⟩ (fun _ => ?_)
  clear hK K
  try simp only [Act.put, List.getElem_toArray, List.getElem_cons_zero, List.getElem_cons_succ, List.setIfInBounds_toArray, List.set_cons_zero, List.set_cons_succ]
  refine wpAnyH_take (i := 17) (oi := _) (v := ?_) rfl (by kernel_rfl) (by kernel_rfl) (by kernel_rfl) (fun _ _ _ h => h) (Or.inl ⟨by kernel_rfl, ?_⟩) ⟨(b0.keep hB6).cell rfl, (b1.keep hB6).cell rfl, (b1.keep hB6).cell rfl, (b1.keep hB6).cell rfl, (b1.keep hB6).cell rfl, (b2.keep hB6).cell rfl⟩ ?_
  rotate_left
  · (rintro w ⟨s0, s1, s2, s3, s4, s5⟩; go_simp; (first | done | rfl))
  try simp only [Act.put, List.getElem_toArray, List.getElem_cons_zero, List.getElem_cons_succ, List.setIfInBounds_toArray, List.set_cons_zero, List.set_cons_succ]
  refine wpAnyH_ready (rs := [18]) (by kernel_rfl) (by simp) (AllReadyH.cons (o := _) rfl (fun K hK => ?_) AllReadyH.nil)
  go_simp
  have hnode := Blk.new w5 126 (nd x al ah D C) rfl
  refine hK.out _ _ ⟨((b0.keep hB6).grown (grown_setCell _ ⟨g + 1 + 1 + 1, 0, none⟩ _) (by simp; omega)).cell rfl, ((b1.keep hB6).grown (grown_setCell _ ⟨g + 1 + 1 + 1, 0, none⟩ _) (by simp)).cell rfl, ((b1.keep hB6).grown (grown_setCell _ ⟨g + 1 + 1 + 1, 0, none⟩ _) (by simp)).cell rfl, ((b1.keep hB6).grown (grown_setCell _ ⟨g + 1 + 1 + 1, 0, none⟩ _) (by simp)).cell rfl, ((b1.keep hB6).grown (grown_setCell _ ⟨g + 1 + 1 + 1, 0, none⟩ _) (by simp)).cell rfl, ((b2.keep hB6).grown (grown_setCell _ ⟨g + 1 + 1 + 1, 0, none⟩ _) (by simp)).cell rfl⟩ (fun _ => ?_)
  clear hK K
  try simp only [Act.put, List.getElem_toArray, List.getElem_cons_zero, List.getElem_cons_succ, List.setIfInBounds_toArray, List.set_cons_zero, List.set_cons_succ]
  refine wpAnyH_done (by kernel_rfl) ?_ _
  refine NoPanic.normal ?_
  go_wp2
  refine bodyPost_ret (results_tr rfl rfl ((b3.keep hB6).setCell 0 (.pointer (some ⟨w5.heap.size, 0, none⟩)))) rfl ?_
  have hlt := (b3.keep hB5).lt
  have hB7 : Below g w _ := (hB1.trans (hB6.mono (by have := b0.lt; omega))).grown (grown_setCell (w5.alloc (.cells #[.int .i64 x.off, .int .i64 x.len, .int .i64 x.phys, .int .i64 x.birth, .pointer al, .pointer ah, .int .i64 (D : Int), .int .i64 (C : Int)] 126)) ⟨g + 1 + 1 + 1, 0, none⟩ (.pointer (some ⟨w5.heap.size, 0, none⟩))) (by simp; omega) (by simp; omega)
  have hn7 := hnode.grown (grown_setCell (w5.alloc (.cells #[.int .i64 x.off, .int .i64 x.len, .int .i64 x.phys, .int .i64 x.birth, .pointer al, .pointer ah, .int .i64 (D : Int), .int .i64 (C : Int)] 126)) ⟨g + 1 + 1 + 1, 0, none⟩ (.pointer (some ⟨w5.heap.size, 0, none⟩))) (by simp; omega)
  subst hg
  exact ⟨_, rfl, ⟨_, _, _, rfl, (by rw [← HD.out, ← HC.out]; exact hn7), fx, (fun e => by cases e), hl.below hB7, hh.below hB7⟩, hB7⟩
end
/-- Three variables of join's like, and what is answered. -/
theorem boxes3 (w : World) (al ah : Option Addr) (x : Ext) : ∃ w1, w1 = (((w.alloc (.cells #[.pointer al] 103)).alloc (.cells #[.int .i64 x.off, .int .i64 x.len, .int .i64 x.phys, .int .i64 x.birth] 77)).alloc (.cells #[.pointer ah] 103)).alloc (.cells #[.pointer none] 103) ∧
    Blk w1 w.heap.size 103 #[.pointer al] ∧ Blk w1 (w.heap.size + 1) 77 (ea x) ∧ Blk w1 (w.heap.size + 1 + 1) 103 #[.pointer ah] ∧ Blk w1 (w.heap.size + 1 + 1 + 1) 103 #[.pointer none] ∧ Below w.heap.size w w1 :=
  ⟨_, rfl, (((Blk.new w _ _ rfl).alloc _).alloc _).alloc _, ((Blk.new _ _ _ (by simp)).alloc _).alloc _, (Blk.new _ _ _ (by simp)).alloc _, Blk.new _ _ _ (by simp), ((((Below.refl _ _).alloc (Nat.le_refl _) _).alloc (by simp) _).alloc (by simp; omega) _).alloc (by simp; omega) _⟩
theorem size_tree : (Try.prog.info? 103).map (·.size) = some 1 := by kernel_rfl
theorem enters_deep (vs : Array Value) (w : World) : (callFunc 89 vs).run Try.prog w = .ok (.enter 89 vs) w := by go_simp
theorem enters_grow (vs : Array Value) (w : World) : (callFunc 91 vs).run Try.prog w = .ok (.enter 91 vs) w := by go_simp
theorem enters_level (vs : Array Value) (w : World) : (callFunc 90 vs).run Try.prog w = .ok (.enter 90 vs) w := by go_simp
theorem enters_join (vs : Array Value) (w : World) : (callFunc 86 vs).run Try.prog w = .ok (.enter 86 vs) w := by go_simp
theorem enters_below (vs : Array Value) (w : World) : (callFunc 85 vs).run Try.prog w = .ok (.enter 85 vs) w := by go_simp
theorem enters_above (vs : Array Value) (w : World) : (callFunc 88 vs).run Try.prog w = .ok (.enter 88 vs) w := by go_simp
theorem enters_meet (vs : Array Value) (w : World) : (callFunc 87 vs).run Try.prog w = .ok (.enter 87 vs) w := by go_simp
end Go.Proofs.Ytfcfffilfmbpeaa

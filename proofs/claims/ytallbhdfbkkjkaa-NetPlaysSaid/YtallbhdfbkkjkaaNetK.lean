/- Layer 15: a bag as it lies in memory; New, made, refuse, Size. -/
import Derived.Test.YtallbhdfbkkjkaaNetC
set_option linter.all false
namespace Go.Proofs.Ytallbhdfbkkjkaa
open Go.RowKit
namespace Net

/-! ### frames: all blocks that were there, but those of S, stay -/
structure Fu (S : Nat → Prop) (w w' : World) : Prop where
  os : w'.os = w.os
  tape : w'.tape = w.tape
  output : w'.output = w.output
  size : w.heap.size ≤ w'.heap.size
  block : ∀ k, k < w.heap.size → ¬ S k → w'.heap[k]? = w.heap[k]?
theorem Fu.refl (S : Nat → Prop) (w : World) : Fu S w w := ⟨rfl, rfl, rfl, Nat.le_refl _, fun _ _ _ => rfl⟩
theorem Fu.then {S T : Nat → Prop} {a b c : World} (h : Fu S a b) (k : Fu T b c) (ht : ∀ j, T j → S j ∨ a.heap.size ≤ j) : Fu S a c :=
  ⟨k.os.trans h.os, k.tape.trans h.tape, k.output.trans h.output, Nat.le_trans h.size k.size, fun j hj hs => by
    refine (k.block j (Nat.lt_of_lt_of_le hj h.size) (fun hT => ?_)).trans (h.block j hj hs)
    rcases ht j hT with h1 | h1
    · exact hs h1
    · omega⟩
theorem Fu.mono {S T : Nat → Prop} {w w' : World} (h : Fu S w w') (hs : ∀ j, S j → T j) : Fu T w w' := ⟨h.os, h.tape, h.output, h.size, fun j hj ht => h.block j hj (fun s => ht (hs j s))⟩
theorem Fu.ofBelow {S : Nat → Prop} {w w' : World} (h : Below w.heap.size w w') : Fu S w w' := ⟨h.os, h.tape, h.output, h.size, fun j hj _ => h.block j hj⟩
theorem Fu.ofGrown {S : Nat → Prop} {w w' : World} {row : Option Nat} (h : w.grownBy w' row) (hr : ∀ k, row = some k → S k) : Fu S w w' := ⟨h.os, h.tape, h.output, h.size, fun j hj hs => h.block j hj (fun e => hs (hr j e.symm))⟩
theorem Fu.below {S : Nat → Prop} {w w' : World} {B : Nat} (h : Fu S w w') (hB : B ≤ w.heap.size) (hs : ∀ j, S j → B ≤ j) : Below B w w' :=
  ⟨h.os, h.tape, h.output, h.size, fun j hj => h.block j (by omega) (fun s => by have := hs j s; omega)⟩
theorem Fu.drew {S : Nat → Prop} {w w' : World} (h : Fu S w w') : Fu S w w'.drew := ⟨h.os, h.tape, h.output, h.size, h.block⟩
theorem Fu.drewN {S : Nat → Prop} {w w' : World} (h : Fu S w w') (k : Nat) : Fu S w (w'.drewN k) := ⟨h.os, h.tape, h.output, h.size, h.block⟩
theorem Fu.step {S : Nat → Prop} {a b c : World} {row : Option Nat} (h : Fu S a b) (k : b.grownBy c row) (hr : ∀ j, row = some j → S j ∨ a.heap.size ≤ j) : Fu S a c :=
  h.then (T := fun j => row = some j) (Fu.ofGrown k (fun _ e => e)) hr
theorem blk_fu {S : Nat → Prop} {w w' : World} {b : Nat} {t : TypeId} {cs : Array Value} (h : Blk w b t cs) (hf : Fu S w w') (hs : ¬ S b) : Blk w' b t cs := (hf.block b h.lt hs).trans h
theorem own_fu {S : Nat → Prop} {w w' : World} {B : Nat} {e : TypeId} {sz n : Nat} {v : Value} {xs : List Value} (h : w.ownsRow B e sz v n xs) (hf : Fu S w w') (hs : ∀ g, v.ownBlock = some g → ¬ S g) : w'.ownsRow B e sz v n xs := by
  refine ⟨h.1, ?_⟩
  rcases h.2 with h2 | ⟨g, cap, cur, rfl, hb, hh, r⟩
  · exact .inl h2
  · exact .inr ⟨g, cap, cur, rfl, hb, (hf.block g (h.lt g rfl).2 (hs g rfl)).trans hh, r⟩

/-! ### bags -/
abbrev gv (p : Value × Gr) : List Value := [p.1, .bool p.2.s]
def gvs (L : List (Value × Gr)) : List Value := L.flatMap gv
theorem gvs_app (L L' : List (Value × Gr)) : gvs (L ++ L') = gvs L ++ gvs L' := by simp [gvs]
theorem gvs_cons (p : Value × Gr) (L : List (Value × Gr)) : gvs (p :: L) = gv p ++ gvs L := rfl
theorem gvs_snoc (L : List (Value × Gr)) (p : Value × Gr) : gvs (L ++ [p]) = gvs L ++ gv p := by rw [gvs_app]; simp [gvs]
theorem gvs_len : ∀ L : List (Value × Gr), (gvs L).length = L.length * 2
  | [] => rfl
  | p :: L => by rw [gvs_cons, List.length_append, gvs_len L, List.length_cons]; simp; omega
theorem gvs_take : ∀ (L : List (Value × Gr)) (k : Nat), (gvs L).take (k * 2) = gvs (L.take k)
  | [], k => by simp [gvs]
  | p :: L, 0 => by simp [gvs]
  | p :: L, k + 1 => by
    rw [gvs_cons, List.take_succ_cons, gvs_cons, show (k + 1) * 2 = k * 2 + 1 + 1 by omega, ← gvs_take L k]; rfl
theorem gvs_drop : ∀ (L : List (Value × Gr)) (k : Nat), (gvs L).drop (k * 2) = gvs (L.drop k)
  | [], k => by simp [gvs]
  | p :: L, 0 => by simp [gvs]
  | p :: L, k + 1 => by
    rw [gvs_cons, List.drop_succ_cons, show (k + 1) * 2 = k * 2 + 1 + 1 by omega, ← gvs_drop L k]; rfl
theorem gvs_at : ∀ {L : List (Value × Gr)} {k : Nat} (h : k < L.length) {j : Nat} (_ : j < 2), (gvs L)[k * 2 + j]? = (gv L[k])[j]?
  | p :: L, 0, _, j, hj => by
    rw [gvs_cons, List.getElem?_append_left (by simp; omega)]
    simp
  | p :: L, k + 1, h, j, hj => by
    rw [gvs_cons, List.getElem?_append_right (by simp; omega)]
    have e : (k + 1) * 2 + j - (gv p).length = k * 2 + j := by simp; omega
    rw [e, gvs_at (L := L) (by simpa using h) hj]
    simp
/-- The bag at block b, whose row is v and whose datagrams are L; all of its blocks are some of U, from B on. -/
structure BgX (w : World) (B b : Nat) (U : Nat → Prop) (v : Value) (L : List (Value × Gr)) : Prop where
  blk : Blk w b 65 #[.pointer (some ⟨b, 0, none⟩), v]
  row : w.ownsRow B 93 2 v L.length (gvs L)
  data : ∀ p ∈ L, w.ownsRow B 5 1 p.1 p.2.b.length (bvs p.2.b)
  apart : L.Pairwise fun p q => ∀ g, p.1.ownBlock = some g → q.1.ownBlock ≠ some g
  rowU : ∀ g, v.ownBlock = some g → U g
  dataU : ∀ p ∈ L, ∀ g, p.1.ownBlock = some g → U g
  out : ¬ U b
  low : B ≤ b
  few : L.length ≤ 256
  far : ∀ p ∈ L, p.2.b.length ≤ 140737488351300
def Bg (w : World) (B b : Nat) (U : Nat → Prop) (l : List Gr) : Prop := ∃ v L, l = L.map (·.2) ∧ BgX w B b U v L
theorem BgX.fu {S : Nat → Prop} {w w' : World} {B b : Nat} {U : Nat → Prop} {v : Value} {L : List (Value × Gr)} (h : BgX w B b U v L) (hf : Fu S w w') (hs : ∀ k, U k → ¬ S k) (hb : ¬ S b) : BgX w' B b U v L :=
  ⟨blk_fu h.blk hf hb, own_fu h.row hf (fun g e => hs g (h.rowU g e)), fun p hp => own_fu (h.data p hp) hf (fun g e => hs g (h.dataU p hp g e)), h.apart, h.rowU, h.dataU, h.out, h.low, h.few, h.far⟩
theorem BgX.keep {w w' : World} {B b : Nat} {U : Nat → Prop} {v : Value} {L : List (Value × Gr)} (h : BgX w B b U v L) (hb : Below w.heap.size w w') : BgX w' B b U v L :=
  h.fu (S := fun _ => False) (Fu.ofBelow hb) (fun _ _ e => e) (fun e => e)
theorem BgX.drew {w : World} {B b : Nat} {U : Nat → Prop} {v : Value} {L : List (Value × Gr)} (h : BgX w B b U v L) : BgX w.drew B b U v L := ⟨h.blk, h.row, h.data, h.apart, h.rowU, h.dataU, h.out, h.low, h.few, h.far⟩
theorem BgX.drewN {w : World} {B b : Nat} {U : Nat → Prop} {v : Value} {L : List (Value × Gr)} (h : BgX w B b U v L) (k : Nat) : BgX (w.drewN k) B b U v L := ⟨h.blk, h.row, h.data, h.apart, h.rowU, h.dataU, h.out, h.low, h.few, h.far⟩
theorem BgX.sub {w : World} {B b : Nat} {U U' : Nat → Prop} {v : Value} {L : List (Value × Gr)} (h : BgX w B b U v L) (hu : ∀ k, U k → k < w.heap.size → U' k) (hb : ¬ U' b) : BgX w B b U' v L :=
  ⟨h.blk, h.row, h.data, h.apart, fun g e => hu g (h.rowU g e) (h.row.lt g e).2, fun p hp g e => hu g (h.dataU p hp g e) ((h.data p hp).lt g e).2, hb, h.low, h.few, h.far⟩
theorem Bg.fu {S : Nat → Prop} {w w' : World} {B b : Nat} {U : Nat → Prop} {l : List Gr} (h : Bg w B b U l) (hf : Fu S w w') (hs : ∀ k, U k → ¬ S k) (hb : ¬ S b) : Bg w' B b U l := by
  obtain ⟨v, L, e, hx⟩ := h; exact ⟨v, L, e, hx.fu hf hs hb⟩
theorem Bg.keep {w w' : World} {B b : Nat} {U : Nat → Prop} {l : List Gr} (h : Bg w B b U l) (hb : Below w.heap.size w w') : Bg w' B b U l := by
  obtain ⟨v, L, e, hx⟩ := h; exact ⟨v, L, e, hx.keep hb⟩
theorem Bg.drewN {w : World} {B b : Nat} {U : Nat → Prop} {l : List Gr} (h : Bg w B b U l) (k : Nat) : Bg (w.drewN k) B b U l := by
  obtain ⟨v, L, e, hx⟩ := h; exact ⟨v, L, e, hx.drewN k⟩
theorem Bg.sub {w : World} {B b : Nat} {U U' : Nat → Prop} {l : List Gr} (h : Bg w B b U l) (hu : ∀ k, U k → k < w.heap.size → U' k) (hb : ¬ U' b) : Bg w B b U' l := by
  obtain ⟨v, L, e, hx⟩ := h; exact ⟨v, L, e, hx.sub hu hb⟩
theorem Bg.lt {w : World} {B b : Nat} {U : Nat → Prop} {l : List Gr} (h : Bg w B b U l) : b < w.heap.size ∧ B ≤ b := by
  obtain ⟨v, L, e, hx⟩ := h; exact ⟨hx.blk.lt, hx.low⟩
theorem Bg.few {w : World} {B b : Nat} {U : Nat → Prop} {l : List Gr} (h : Bg w B b U l) : l.length ≤ 256 := by
  obtain ⟨v, L, rfl, hx⟩ := h; simpa using hx.few
theorem Bg.far {w : World} {B b : Nat} {U : Nat → Prop} {l : List Gr} (h : Bg w B b U l) : ∀ g ∈ l, g.b.length ≤ 140737488351300 := by
  obtain ⟨v, L, rfl, hx⟩ := h
  intro g hg
  obtain ⟨p, hp, rfl⟩ := List.mem_map.1 hg
  exact hx.far p hp
theorem size_bag : (Try.prog.info? 65).map (·.size) = some 2 := by kernel_rfl
theorem eql_bag (a : Addr) (w : World) : (binOp .eql 41 (.pointer (some a)) (.pointer (some a))).run Try.prog w = .ok (.bool true) w := by
  obtain ⟨j, hj, _⟩ := Option.map_eq_some_iff.1 size_bag
  exact run_eql_ptr_same w a Try.underlying41 hj
theorem eql_bag_none (a : Addr) (w : World) : (binOp .eql 41 (.pointer none) (.pointer (some a))).run Try.prog w = .ok (.bool false) w := by
  have h : ∀ d : Nat, (Op.equalIn (d + 1) 41 (.pointer none) (.pointer (some a))).run Try.prog w = .ok false w := fun d => by
    simp [Op.equalIn, run_underlying Try.underlying41]
  simp only [binOp]
  simp [Op.equal, Op.maxDepth, h 9999]
section
variable (w : World)
set_option maxRecDepth 100000 in
set_option maxHeartbeats 1000000 in
theorem made_ (b : Nat) (v : Value) (h : Blk w b 65 #[.pointer (some ⟨b, 0, none⟩), v]) : Calls Try.prog 46 #[.pointer (some ⟨b, 0, none⟩)] w fun e w' => e = .returned (.bool true) ∧ w = w' := by
  have c0 := h.cell (j := 0) (u := .pointer (some ⟨b, 0, none⟩)) rfl
  have q := eql_bag ⟨b, 0, none⟩ w
  clear h
  go_enter Try.func46, Try.ntmps46
  go_wp2
  go_ret
  exact ⟨rfl, rfl⟩
set_option maxRecDepth 100000 in
set_option maxHeartbeats 1000000 in
theorem made_nil : Calls Try.prog 46 #[.pointer none] w fun e w' => e = .returned (.bool false) ∧ w = w' := by
  go_enter Try.func46, Try.ntmps46
  go_wp2
  go_ret
  exact ⟨rfl, rfl⟩
set_option maxRecDepth 100000 in
set_option maxHeartbeats 1000000 in
theorem made_no (b : Nat) (v : Value) (h : Blk w b 65 #[.pointer none, v]) : Calls Try.prog 46 #[.pointer (some ⟨b, 0, none⟩)] w fun e w' => e = .returned (.bool false) ∧ w = w' := by
  have c0 := h.cell (j := 0) (u := .pointer none) rfl
  have q := eql_bag_none ⟨b, 0, none⟩ w
  clear h
  go_enter Try.func46, Try.ntmps46
  go_wp2
  go_ret
  exact ⟨rfl, rfl⟩
set_option maxRecDepth 100000 in
set_option maxHeartbeats 1000000 in
theorem refuse_ (B b : Nat) (U : Nat → Prop) (v : Value) (L : List (Value × Gr)) (h : BgX w B b U v L) (i : Int) : Calls Try.prog 48 #[.pointer (some ⟨b, 0, none⟩), .int .i64 i] w fun e w' => e = .returned (.int .i64 (takE (L.map (·.2)) i)) ∧ w = w' := by
  obtain ⟨A, c, rfl, hc, hm, hA⟩ := own_form h.row
  have c1 := h.blk.cell (j := 1) (u := .slice A L.length c) rfl
  have hM := made_ w b _ h.blk
  have HT := Lib.hid (show takE (L.map (·.2)) i = if (0 ≤ i ∧ i < (L.length : Int)) then 0 else 9 by
    unfold takE
    by_cases hi : 0 ≤ i ∧ i < (L.length : Int)
    · rw [if_pos (has_iff.2 (by simpa using hi)), if_pos hi]
    · rw [if_neg (fun e => hi (by simpa using has_iff.1 e)), if_neg hi])
  obtain ⟨n, hn⟩ : ∃ n, L.length = n := ⟨_, rfl⟩
  rw [hn] at c1 HT
  clear h hn
  by_cases h0 : i < 0
  · have HE := Lib.hid (show takE (L.map (·.2)) i = 9 by rw [HT.out, if_neg (by omega)])
    go_enter Try.func48, Try.ntmps48
    go_wp2_with fail
    refine hM.mono ?_
    rintro e w' ⟨rfl, rfl⟩
    go_wp2
    go_ret
    rw [HE.out]
    exact ⟨rfl, rfl⟩
  · by_cases h1 : i < (n : Int)
    · have HE := Lib.hid (show takE (L.map (·.2)) i = 0 by rw [HT.out, if_pos (by omega)])
      go_enter Try.func48, Try.ntmps48
      go_wp2_with fail
      refine hM.mono ?_
      rintro e w' ⟨rfl, rfl⟩
      go_wp2
      go_ret
      rw [HE.out]
      exact ⟨rfl, rfl⟩
    · have HE := Lib.hid (show takE (L.map (·.2)) i = 9 by rw [HT.out, if_neg (by omega)])
      go_enter Try.func48, Try.ntmps48
      go_wp2_with fail
      refine hM.mono ?_
      rintro e w' ⟨rfl, rfl⟩
      go_wp2
      go_ret
      rw [HE.out]
      exact ⟨rfl, rfl⟩
set_option maxRecDepth 100000 in
set_option maxHeartbeats 1000000 in
theorem refuse_nil (i : Int) : Calls Try.prog 48 #[.pointer none, .int .i64 i] w fun e w' => e = .returned (.int .i64 2) ∧ w = w' := by
  go_enter Try.func48, Try.ntmps48
  go_wp2_with fail
  refine (made_nil _).mono ?_
  rintro e w' ⟨rfl, rfl⟩
  go_wp2
  go_ret
  exact ⟨rfl, rfl⟩
set_option maxRecDepth 100000 in
set_option maxHeartbeats 1000000 in
theorem refuse_no (b : Nat) (v : Value) (h : Blk w b 65 #[.pointer none, v]) (i : Int) : Calls Try.prog 48 #[.pointer (some ⟨b, 0, none⟩), .int .i64 i] w fun e w' => e = .returned (.int .i64 2) ∧ w = w' := by
  go_enter Try.func48, Try.ntmps48
  go_wp2_with fail
  refine (made_no _ b v h).mono ?_
  rintro e w' ⟨rfl, rfl⟩
  go_wp2
  go_ret
  exact ⟨rfl, rfl⟩
set_option maxRecDepth 100000 in
set_option maxHeartbeats 1000000 in
theorem size_ (B b : Nat) (U : Nat → Prop) (l : List Gr) (h : Bg w B b U l) : Calls Try.prog 26 #[.pointer (some ⟨b, 0, none⟩)] w fun e w' => e = .returned (.int .i64 (l.length : Int)) ∧ w = w' := by
  obtain ⟨v, L, rfl, h⟩ := h
  obtain ⟨A, c, rfl, hc, hm, hA⟩ := own_form h.row
  have c1 := h.blk.cell (j := 1) (u := .slice A L.length c) rfl
  have hM := made_ w b _ h.blk
  rw [List.length_map]
  obtain ⟨n, hn⟩ : ∃ n, L.length = n := ⟨_, rfl⟩
  rw [hn] at c1 ⊢
  clear h hn
  go_enter Try.func26, Try.ntmps26
  go_wp2_with fail
  refine hM.mono ?_
  rintro e w' ⟨rfl, rfl⟩
  go_wp2
  go_ret
  exact ⟨rfl, rfl⟩
set_option maxRecDepth 100000 in
set_option maxHeartbeats 1000000 in
theorem size_nil : Calls Try.prog 26 #[.pointer none] w fun e w' => e = .returned (.int .i64 0) ∧ w = w' := by
  go_enter Try.func26, Try.ntmps26
  go_wp2_with fail
  refine (made_nil _).mono ?_
  rintro e w' ⟨rfl, rfl⟩
  go_wp2
  go_ret
  exact ⟨rfl, rfl⟩
set_option maxRecDepth 100000 in
set_option maxHeartbeats 1000000 in
theorem size_no (b : Nat) (v : Value) (h : Blk w b 65 #[.pointer none, v]) : Calls Try.prog 26 #[.pointer (some ⟨b, 0, none⟩)] w fun e w' => e = .returned (.int .i64 0) ∧ w = w' := by
  go_enter Try.func26, Try.ntmps26
  go_wp2_with fail
  refine (made_no _ b v h).mono ?_
  rintro e w' ⟨rfl, rfl⟩
  go_wp2
  go_ret
  exact ⟨rfl, rfl⟩
set_option maxRecDepth 100000 in
set_option maxHeartbeats 1000000 in
theorem bnew_ : Calls Try.prog 17 #[] w fun e w' => e = .returned (.pointer (some ⟨w.heap.size, 0, none⟩)) ∧ Bg w' w.heap.size w.heap.size (fun _ => False) [] ∧ Below w.heap.size w w' ∧ w'.heap.size = w.heap.size + 1 := by
  have hb : Blk (w.alloc (.cells #[.pointer (some ⟨w.heap.size, 0, none⟩), .slice none 0 0] 65)) w.heap.size 65 #[.pointer (some ⟨w.heap.size, 0, none⟩), .slice none 0 0] := Blk.new w _ _ rfl
  have hbl : Below w.heap.size w (w.alloc (.cells #[.pointer (some ⟨w.heap.size, 0, none⟩), .slice none 0 0] 65)) := (Below.refl _ _).alloc (Nat.le_refl _) _
  go_enter Try.func17, Try.ntmps17
  go_wp2
  go_ret
  exact ⟨rfl, ⟨.slice none 0 0, [], rfl, ⟨hb, own_nil _ _ _ _, by simp, by simp, (fun g e => by cases e), by simp, fun e => e, Nat.le_refl _, by simp, by simp⟩⟩, hbl, by simp⟩
end
end Net
end Go.Proofs.Ytallbhdfbkkjkaa

/- Layer 7: a forest on the heap; its methods that only read: made, tree, Trees, Deep, Size, Fresh, List. -/
import Derived.Test.YtiehhmchokbafaaCowR
import Derived.Test.YtiehhmchokbafaaCowU
import Derived.Test.YtiehhmchokbafaaCowY
import Derived.Test.YtiehhmchokbafaaEmpW
import Derived.LaidEqlPtr
set_option linter.all false
namespace Go.Proofs.Ytiehhmchokbafaa
open Go.RowKit

/-! ### frames by types -/
/-- All that was there is as it was, but for blocks of the types T. -/
structure Ty (T : TypeId → Prop) (w w' : World) : Prop where
  os : w'.os = w.os
  tape : w'.tape = w.tape
  output : w'.output = w.output
  size : w.heap.size ≤ w'.heap.size
  block : ∀ b t cs, Blk w b t cs → ¬ T t → Blk w' b t cs
theorem Ty.refl (T : TypeId → Prop) (w : World) : Ty T w w := ⟨rfl, rfl, rfl, Nat.le_refl _, fun _ _ _ h _ => h⟩
theorem Ty.trans {T : TypeId → Prop} {a b c : World} (h : Ty T a b) (k : Ty T b c) : Ty T a c :=
  ⟨k.os.trans h.os, k.tape.trans h.tape, k.output.trans h.output, Nat.le_trans h.size k.size, fun i t cs hi hT => k.block i t cs (h.block i t cs hi hT) hT⟩
theorem Ty.ofBelow {T : TypeId → Prop} {a b : World} (h : Below a.heap.size a b) : Ty T a b := ⟨h.os, h.tape, h.output, h.size, fun _ _ _ hi _ => hi.keep h⟩
theorem Ty.ofGrown {T : TypeId → Prop} {a b : World} {row : Option Nat} (h : a.grownBy b row) (hr : ∀ g, row = some g → ∃ t cs, Blk a g t cs ∧ T t) : Ty T a b :=
  ⟨h.os, h.tape, h.output, h.size, fun i t cs hi hT => hi.grown h fun e => by
    obtain ⟨t', cs', k, kT⟩ := hr i e.symm
    exact hT (by rw [blk_type hi k]; exact kT)⟩
theorem Ty.set {T : TypeId → Prop} {w : World} {b : Nat} {t : TypeId} {cs : Array Value} (h : Blk w b t cs) (hT : T t) (o : Nat) (u : Value) : Ty T w (w.setCell ⟨b, o, none⟩ u) :=
  Ty.ofGrown (grown_setCell _ _ _) fun g e => by injection e with e; subst e; exact ⟨t, cs, h, hT⟩
theorem Ty.drew {T : TypeId → Prop} {a b : World} (h : Ty T a.drew b) : Ty T a b := ⟨h.os, h.tape, h.output, h.size, h.block⟩
theorem Ty.drewR {T : TypeId → Prop} {a b : World} (h : Ty T a b) : Ty T a b.drew := ⟨h.os, h.tape, h.output, h.size, h.block⟩
theorem Ty.wide {T T' : TypeId → Prop} {a b : World} (h : Ty T a b) (hT : ∀ t, T t → T' t) : Ty T' a b := ⟨h.os, h.tape, h.output, h.size, fun i t cs hi k => h.block i t cs hi fun q => k (hT t q)⟩
theorem Tree.ty {T : TypeId → Prop} {w w' : World} {S : Nat → Prop} (hT : ¬ T 80) (hb : Ty T w w') : ∀ {t : Tr} {a : Option Addr}, Tree w S a t → Tree w' S a t
  | .nil, _, h => h
  | .node _ lo x hi, a, h => by
    obtain ⟨b, al, ah, rfl, h1, h2, h3, h4, h5⟩ := h
    exact ⟨b, al, ah, rfl, hb.block _ _ _ h1 hT, h2, h3, Tree.ty hT hb h4, Tree.ty hT hb h5⟩
theorem own_ty {T : TypeId → Prop} {w w' : World} (hb : Ty T w w') {B : Nat} {e : TypeId} (hT : ¬ T e) {sz : Nat} {v : Value} {n : Nat} {xs : List Value} (h : w.ownsRow B e sz v n xs) : w'.ownsRow B e sz v n xs := by
  refine ⟨h.1, ?_⟩
  rcases h.2 with hn | ⟨g, cap, cur, hv, hB, hg, rest⟩
  · exact .inl hn
  · exact .inr ⟨g, cap, cur, hv, hB, hb.block g e cur hg hT, rest⟩

/-! ### a forest -/
/-- The types that a forest writes to. -/
def FoT : TypeId → Prop := fun t => t = 65 ∨ t = 70
theorem FoT.node : ¬ FoT 80 := by unfold FoT; decide
abbrev All : Nat → Prop := fun _ => True
abbrev Root : Type := Option Addr × Tr
/-- Forest f has these trees, by their numbers; what it writes to lies from B on. -/
structure Fo (w : World) (B f : Nat) (ls : List Root) : Prop where
  row : ∃ v, Blk w f 65 #[.pointer (some ⟨f, 0, none⟩), v] ∧ w.ownsRow B 70 1 v ls.length (ls.map fun q => .pointer q.1)
  trees : ∀ q ∈ ls, Tree w All q.1 q.2 ∧ q.2.bal ∧ rightB q.2.list = true
  new : B ≤ f
  least : 0 < ls.length
  few : ls.length ≤ 100000
theorem Fo.ty {T : TypeId → Prop} {w w' : World} {B f : Nat} {ls : List Root} (h : Fo w B f ls) (ht : Ty T w w') (h1 : ¬ T 65) (h2 : ¬ T 70) (h3 : ¬ T 80) : Fo w' B f ls := by
  obtain ⟨v, k1, k2⟩ := h.row
  exact ⟨⟨v, ht.block _ _ _ k1 h1, own_ty ht h2 k2⟩, fun q hq => ⟨(h.trees q hq).1.ty h3 ht, (h.trees q hq).2⟩, h.new, h.least, h.few⟩
theorem Fo.below {w w' : World} {B f : Nat} {ls : List Root} (h : Fo w B f ls) (hb : Below w.heap.size w w') : Fo w' B f ls := h.ty (T := fun _ => False) (Ty.ofBelow hb) id id id
theorem Fo.alloc {w : World} {B f : Nat} {ls : List Root} (h : Fo w B f ls) (o : Obj) : Fo (w.alloc o) B f ls := h.below ((Below.refl _ _).alloc (Nat.le_refl _) _)
theorem Fo.drew {w : World} {B f : Nat} {ls : List Root} (h : Fo w B f ls) : Fo w.drew B f ls := ⟨h.row, fun q hq => ⟨(h.trees q hq).1.drew, (h.trees q hq).2⟩, h.new, h.least, h.few⟩
theorem size_small {t : Tr} (h : rightB t.list = true) : t.size ≤ 1024 := by rw [Tr.size_list]; exact right_short h
theorem Fo.lt {w : World} {B f : Nat} {ls : List Root} (h : Fo w B f ls) : f < w.heap.size := by obtain ⟨v, k, _⟩ := h.row; exact k.lt
/-- Its row, and what lies in it. -/
theorem Fo.cells {w : World} {B f : Nat} {ls : List Root} (h : Fo w B f ls) : ∃ b c, w.cell? ⟨f, 0, none⟩ = some (.pointer (some ⟨f, 0, none⟩)) ∧ w.cell? ⟨f, 1, none⟩ = some (.slice (some ⟨b, 0, none⟩) ls.length c) ∧ ls.length ≤ c ∧ ∀ k q, ls[k]? = some q → w.cell? ⟨b, k, none⟩ = some (.pointer q.1) := by
  obtain ⟨v, k1, k2⟩ := h.row
  have hs := h.least
  rcases k2.2 with ⟨-, hn⟩ | ⟨g, cap, cur, rfl, -, hg, hc, -, hcs, hx⟩
  · omega
  · have hg' : Blk w g 70 cur := hg
    refine ⟨g, cap, k1.cell rfl, k1.cell rfl, hc, fun k q hq => ?_⟩
    have hk : k < ls.length := (List.getElem?_eq_some_iff.1 hq).1
    refine hg'.cell ?_
    have h1 : (ls.map fun q => Value.pointer q.1)[k]? = some (.pointer q.1) := by rw [List.getElem?_map, hq]; rfl
    rw [← hx, List.getElem?_take, if_pos (by omega)] at h1
    simpa using h1

theorem size_forest : (Try.prog.info? 65).map (·.size) = some 2 := by kernel_rfl
theorem eql_forest (a : Addr) (w : World) : (binOp .eql 27 (.pointer (some a)) (.pointer (some a))).run Try.prog w = .ok (.bool true) w := by
  obtain ⟨j, hj, _⟩ := Option.map_eq_some_iff.1 size_forest
  exact run_eql_ptr_same w a Try.underlying27 hj
theorem eql_forest_none (a : Addr) (w : World) : (binOp .eql 27 (.pointer none) (.pointer (some a))).run Try.prog w = .ok (.bool false) w := by
  have h : ∀ d : Nat, (Op.equalIn (d + 1) 27 (.pointer none) (.pointer (some a))).run Try.prog w = .ok false w := fun d => by
    simp [Op.equalIn, run_underlying Try.underlying27]
  simp only [binOp]
  simp [Op.equal, Op.maxDepth, h 9999]
/-- A forest that nobody made: nil, or a zero one. -/
def NoFo (w : World) : Option Addr → Prop
  | none => True
  | some p => ∃ b v, p = ⟨b, 0, none⟩ ∧ Blk w b 65 #[.pointer none, v]
theorem NoFo.below {w w' : World} {p : Option Addr} (h : NoFo w p) (hb : Below w.heap.size w w') : NoFo w' p := by
  cases p with
  | none => trivial
  | some p => obtain ⟨b, v, e, k⟩ := h; exact ⟨b, v, e, k.keep hb⟩
/-- A tree and an error. -/
theorem results_te {fn : Func} {W : World} {s s' q : Nat} {a : Option Addr} {u : Value} {tmps : Array Value} (h : fn.results = #[.cell s 70, .tmp s']) (h2 : tmps.getD s undef = .pointer (some ⟨q, 0, none⟩)) (h3 : tmps.getD s' undef = u) (hb : Blk W q 70 #[.pointer a]) :
    (results fn tmps).run Try.prog W = .ok (.tuple #[.agg #[.pointer a], u]) W := by
  have d0 := hb.cell (j := 0) rfl
  have h2' : tmps[s]?.getD undef = .pointer (some ⟨q, 0, none⟩) := by simpa using h2
  have h3' : tmps[s']?.getD undef = u := by simpa using h3
  simp [results, h, h2', h3', go_sem, d0]

section
variable (w : World) (B f : Nat) (ls : List Root)
set_option maxRecDepth 100000 in
theorem made_ (h : Fo w B f ls) : Calls Try.prog 32 #[.pointer (some ⟨f, 0, none⟩)] w fun e w' => e = .returned (.bool true) ∧ w = w' := by
  obtain ⟨b, c, c0, -, -, -⟩ := h.cells
  have q := eql_forest ⟨f, 0, none⟩ w
  go_enter Try.func32, Try.ntmps32
  go_wp2
  go_ret
  exact ⟨rfl, rfl⟩
set_option maxRecDepth 100000 in
theorem made_no (p : Option Addr) (h : NoFo w p) : Calls Try.prog 32 #[.pointer p] w fun e w' => e = .returned (.bool false) ∧ w = w' := by
  cases p with
  | none =>
    go_enter Try.func32, Try.ntmps32
    go_wp2
    go_ret
    exact ⟨rfl, rfl⟩
  | some p =>
    obtain ⟨b, v, rfl, k⟩ := h
    have c0 := k.cell (j := 0) (u := .pointer none) rfl
    have q := eql_forest_none ⟨b, 0, none⟩ w
    go_enter Try.func32, Try.ntmps32
    go_wp2
    go_ret
    exact ⟨rfl, rfl⟩
set_option maxRecDepth 100000 in
set_option maxHeartbeats 1000000 in
theorem tree_ok (h : Fo w B f ls) (k : Nat) (q : Root) (hk : ls[k]? = some q) : Calls Try.prog 33 #[.pointer (some ⟨f, 0, none⟩), .int .i64 (k : Int)] w fun e w' => e = .returned (.tuple #[.agg #[.pointer q.1], .int .i64 0]) ∧ Below w.heap.size w w' := by
  have hkl : k < ls.length := (List.getElem?_eq_some_iff.1 hk).1
  have hfew := h.few
  obtain ⟨b, c, c0, c1, hcc, cx⟩ := h.cells
  have ck := cx k q hk
  obtain ⟨pa, pt⟩ := q
  have hB : Below w.heap.size w (w.alloc (.cells #[.pointer pa] 70)) := (Below.refl _ _).alloc (Nat.le_refl _) _
  have hnew := Blk.new w 70 #[.pointer pa] rfl
  have hge : decide ((ls.length : Int) ≤ (k : Int)) = false := decide_eq_false (by omega)
  have hlt : decide ((k : Int) < 0) = false := decide_eq_false (by omega)
  have d1 : (w.alloc (.cells #[.pointer none] 70)).cell? ⟨f, 1, none⟩ = some (.slice (some ⟨b, 0, none⟩) ls.length c) := by rw [World.cell?_alloc_lt _ _ _ (cell_lt c1)]; exact c1
  have dk : (w.alloc (.cells #[.pointer none] 70)).cell? ⟨b, k, none⟩ = some (.pointer pa) := by rw [World.cell?_alloc_lt _ _ _ (cell_lt ck)]; exact ck
  have hkI : (k : Int) < (ls.length : Int) := by omega
  clear c0 cx hk hcc
  go_enter Try.func33, Try.ntmps33
  go_wp2_with fail
  refine (made_ _ B f ls (h.alloc _)).mono ?_
  rintro e w2 ⟨rfl, rfl⟩
  go_wp2
  refine bodyPost_ret (results_te rfl rfl rfl hnew) rfl ?_
  exact ⟨rfl, hB⟩
set_option maxRecDepth 100000 in
set_option maxHeartbeats 1000000 in
theorem tree_none (h : Fo w B f ls) (r : Int) (hr : ¬ (0 ≤ r ∧ r < ls.length)) : Calls Try.prog 33 #[.pointer (some ⟨f, 0, none⟩), .int .i64 r] w fun e w' => e = .returned (.tuple #[.agg #[.pointer none], .int .i64 9]) ∧ Below w.heap.size w w' := by
  have hfew := h.few
  obtain ⟨b, c, c0, c1, hcc, cx⟩ := h.cells
  have hB : Below w.heap.size w (w.alloc (.cells #[.pointer none] 70)) := (Below.refl _ _).alloc (Nat.le_refl _) _
  have hnew := Blk.new w 70 #[.pointer none] rfl
  have d1 : (w.alloc (.cells #[.pointer none] 70)).cell? ⟨f, 1, none⟩ = some (.slice (some ⟨b, 0, none⟩) ls.length c) := by rw [World.cell?_alloc_lt _ _ _ (cell_lt c1)]; exact c1
  clear c0 cx hcc
  by_cases hneg : r < 0
  · have hlt : decide (r < 0) = true := decide_eq_true hneg
    go_enter Try.func33, Try.ntmps33
    go_wp2_with fail
    refine (made_ _ B f ls (h.alloc _)).mono ?_
    rintro e w2 ⟨rfl, rfl⟩
    go_wp2
    refine bodyPost_ret (results_te rfl rfl rfl hnew) rfl ?_
    exact ⟨rfl, hB⟩
  · have hlt : decide (r < 0) = false := decide_eq_false hneg
    have hge : decide ((ls.length : Int) ≤ r) = true := decide_eq_true (by omega)
    have hge2 : (ls.length : Int) ≤ r := by omega
    clear hr
    go_enter Try.func33, Try.ntmps33
    go_wp2_with fail
    refine (made_ _ B f ls (h.alloc _)).mono ?_
    rintro e w2 ⟨rfl, rfl⟩
    go_wp2
    refine bodyPost_ret (results_te rfl rfl rfl hnew) rfl ?_
    exact ⟨rfl, hB⟩
set_option maxRecDepth 100000 in
theorem tree_no (p : Option Addr) (h : NoFo w p) (r : Int) : Calls Try.prog 33 #[.pointer p, .int .i64 r] w fun e w' => e = .returned (.tuple #[.agg #[.pointer none], .int .i64 2]) ∧ Below w.heap.size w w' := by
  have hB : Below w.heap.size w (w.alloc (.cells #[.pointer none] 70)) := (Below.refl _ _).alloc (Nat.le_refl _) _
  have hnew := Blk.new w 70 #[.pointer none] rfl
  go_enter Try.func33, Try.ntmps33
  go_wp2_with fail
  refine (made_no _ p (h.below hB)).mono ?_
  rintro e w2 ⟨rfl, rfl⟩
  go_wp2
  refine bodyPost_ret (results_te rfl rfl rfl hnew) rfl ?_
  exact ⟨rfl, hB⟩
end
end Go.Proofs.Ytiehhmchokbafaa

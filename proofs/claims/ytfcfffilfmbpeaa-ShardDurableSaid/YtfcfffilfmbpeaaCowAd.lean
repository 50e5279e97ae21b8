/- Layer 7: a forest's Put and Cut, whatever they are asked. -/
import Derived.Test.YtfcfffilfmbpeaaCowAa
set_option linter.all false
namespace Go.Proofs.Ytfcfffilfmbpeaa
open Go.RowKit

/-- Which error a Put, or a Cut, answers. -/
def chgE (q : Option Root) (ok : Bool) : Int := match q with | none => 9 | some _ => if ok then 0 else 1
theorem More.back {w w1 w' : World} {B f : Nat} {ls : List Root} {q : Root} {l : List Ext} {q' : Root} (h : More w1 w' B f ls q l q') (hb : Below w.heap.size w w1) (hB : B ≤ w.heap.size) : More w w' B f ls q l q' :=
  ⟨h.fo, h.list, h.made, h.fresh, (hb.mono hB).trans h.below, (Ty.ofBelow hb).trans h.ty, fun i es c hi => h.maps i es c ((hb.block i (Array.getElem?_eq_some_iff.1 hi).1).trans hi)⟩
/-- What a Put, or a Cut, does: nothing but an error, or a tree more. -/
def Chg (w : World) (B f : Nat) (ls : List Root) (r : Int) (ok : Bool) (op : List Ext → List Ext) (e : Ending) (w' : World) : Prop :=
  (chgE (rootAt ls r) ok ≠ 0 ∧ e = .returned (.tuple #[.int .i64 0, .int .i64 (chgE (rootAt ls r) ok)]) ∧ Below w.heap.size w w') ∨
  (∃ q q', rootAt ls r = some q ∧ ok = true ∧ e = .returned (.tuple #[.int .i64 (ls.length : Int), .int .i64 0]) ∧ More w w' B f ls q (op q.2.list) q')
section
variable (w : World) (B f : Nat) (ls : List Root)
theorem change_put (h : Fo w B f ls) (hB : B ≤ w.heap.size) (hfew : ls.length < 100000) (r : Int) (x : Ext) (fx : Fit x) (bx : Nat) (hx : Blk w bx 77 (ea x)) :
    Calls Try.prog 64 #[.pointer (some ⟨f, 0, none⟩), .int .i64 r, .int .i64 x.off, .int .i64 x.len, .func (.func 67) #[] #[.pointer (some ⟨bx, 0, none⟩)]] w (Chg w B f ls r x.may (fun l => putL l x)) := by
  cases hq : rootAt ls r with
  | none =>
    refine (change_put_none w B f ls h r hq x fx bx hx).mono fun e w' k => ?_
    exact .inl ⟨by rw [hq]; simp [chgE], by rw [hq]; exact k.1, k.2⟩
  | some q =>
    cases hm : x.may with
    | false =>
      refine (change_put_bad w B f ls h r q hq x fx bx hx hm).mono fun e w' k => ?_
      exact .inl ⟨by rw [hq]; simp [chgE], by rw [hq]; exact k.1, k.2⟩
    | true =>
      refine (change_put_ok w B f ls h hB hfew r q hq x fx bx hx hm).mono fun e w' k => ?_
      obtain ⟨q', he, hM⟩ := k
      exact .inr ⟨q, q', hq, rfl, he, hM⟩
theorem change_cut (h : Fo w B f ls) (hB : B ≤ w.heap.size) (hfew : ls.length < 100000) (r : Int) (o k : Int) (fo : I64 o) (fk : I64 k) (bo bn : Nat) (ho : Blk w bo 3 #[.int .i64 o]) (hk : Blk w bn 3 #[.int .i64 k]) :
    Calls Try.prog 64 #[.pointer (some ⟨f, 0, none⟩), .int .i64 r, .int .i64 o, .int .i64 k, .func (.func 65) #[] #[.pointer (some ⟨bo, 0, none⟩), .pointer (some ⟨bn, 0, none⟩)]] w (Chg w B f ls r (rangeB o k) (fun l => cutL l o k)) := by
  cases hq : rootAt ls r with
  | none =>
    refine (change_cut_none w B f ls h r hq o k fo fk bo bn ho hk).mono fun e w' k => ?_
    exact .inl ⟨by rw [hq]; simp [chgE], by rw [hq]; exact k.1, k.2⟩
  | some q =>
    cases hm : rangeB o k with
    | false =>
      refine (change_cut_bad w B f ls h r q hq o k fo fk bo bn ho hk hm).mono fun e w' k => ?_
      exact .inl ⟨by rw [hq]; simp [chgE], by rw [hq]; exact k.1, k.2⟩
    | true =>
      refine (change_cut_ok w B f ls h hB hfew r q hq o k fo fk bo bn ho hk hm).mono fun e w' k => ?_
      obtain ⟨q', he, hM⟩ := k
      exact .inr ⟨q, q', hq, rfl, he, hM⟩
theorem Chg.back {w w1 w' : World} {B f : Nat} {ls : List Root} {r : Int} {ok : Bool} {op : List Ext → List Ext} {e : Ending} (h : Chg w1 B f ls r ok op e w') (hb : Below w.heap.size w w1) (hB : B ≤ w.heap.size) : Chg w B f ls r ok op e w' := by
  rcases h with ⟨h1, h2, h3⟩ | ⟨q, q', h1, h2, h3, h4⟩
  · exact .inl ⟨h1, h2, hb.trans (h3.mono hb.size)⟩
  · exact .inr ⟨q, q', h1, h2, h3, h4.back hb hB⟩
/-- The answer's two numbers. -/
theorem Chg.form {w w' : World} {B f : Nat} {ls : List Root} {r : Int} {ok : Bool} {op : List Ext → List Ext} {e : Ending} (h : Chg w B f ls r ok op e w') : ∃ n er : Int, e = .returned (.tuple #[.int .i64 n, .int .i64 er]) := by
  rcases h with ⟨h1, h2, h3⟩ | ⟨q, q', h1, h2, h3, h4⟩
  · exact ⟨_, _, h2⟩
  · exact ⟨_, _, h3⟩
set_option maxRecDepth 100000 in
set_option maxHeartbeats 2000000 in
theorem putF_ (h : Fo w B f ls) (hB : B ≤ w.heap.size) (hfew : ls.length < 100000) (r : Int) (x : Ext) (fx : Fit x) :
    Calls Try.prog 51 #[.pointer (some ⟨f, 0, none⟩), .int .i64 r, .agg #[.int .i64 x.off, .int .i64 x.len, .int .i64 x.phys, .int .i64 x.birth]] w (Chg w B f ls r x.may (fun l => putL l x)) := by
  have hb1 : Below w.heap.size w (w.alloc (.cells #[.int .i64 x.off, .int .i64 x.len, .int .i64 x.phys, .int .i64 x.birth] 77)) := (Below.refl _ _).alloc (Nat.le_refl _) _
  have hx : Blk (w.alloc (.cells #[.int .i64 x.off, .int .i64 x.len, .int .i64 x.phys, .int .i64 x.birth] 77)) w.heap.size 77 (ea x) := Blk.new _ _ _ rfl
  have hc := change_put _ B f ls (h.below hb1) (Nat.le_trans hB hb1.size) hfew r x fx w.heap.size hx
  go_enter Try.func51, Try.ntmps51
  go_wp2_with fail
  refine hc.mono ?_
  intro e w2 hC
  have hC2 := hC.back hb1 hB
  obtain ⟨n, er, rfl⟩ := hC.form
  clear hC hc h hx
  go_wp2
  go_ret2
  exact hC2
set_option maxRecDepth 100000 in
set_option maxHeartbeats 2000000 in
theorem cutF_ (h : Fo w B f ls) (hB : B ≤ w.heap.size) (hfew : ls.length < 100000) (r : Int) (o k : Int) (fo : I64 o) (fk : I64 k) :
    Calls Try.prog 50 #[.pointer (some ⟨f, 0, none⟩), .int .i64 r, .int .i64 o, .int .i64 k] w (Chg w B f ls r (rangeB o k) (fun l => cutL l o k)) := by
  have hb1 : Below w.heap.size w ((w.alloc (.cells #[.int .i64 o] 3)).alloc (.cells #[.int .i64 k] 3)) := ((Below.refl _ _).alloc (Nat.le_refl _) _).alloc (by simp) _
  have ho : Blk ((w.alloc (.cells #[.int .i64 o] 3)).alloc (.cells #[.int .i64 k] 3)) w.heap.size 3 #[.int .i64 o] := (Blk.new _ _ _ rfl).alloc _
  have hk : Blk ((w.alloc (.cells #[.int .i64 o] 3)).alloc (.cells #[.int .i64 k] 3)) (w.heap.size + 1) 3 #[.int .i64 k] := Blk.new _ _ _ (by simp)
  have hc := change_cut _ B f ls (h.below hb1) (Nat.le_trans hB hb1.size) hfew r o k fo fk w.heap.size (w.heap.size + 1) ho hk
  go_enter Try.func50, Try.ntmps50
  go_wp2_with fail
  refine hc.mono ?_
  intro e w2 hC
  have hC2 := hC.back hb1 hB
  obtain ⟨n, er, rfl⟩ := hC.form
  clear hC hc h ho hk
  go_wp2
  go_ret2
  exact hC2
end
end Go.Proofs.Ytfcfffilfmbpeaa

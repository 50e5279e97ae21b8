/- General words: a call in a region that is walked by hand. Nothing of the program is named here. -/
import Derived.Test.YtpjbeodnalgkfaaStab
import Derived.Test.YtpjbeodnalgkfaaTurn
set_option linter.all false
namespace Go.Proofs.Ytpjbeodnalgkfaa
open Go.RowKit

/-- A call of a function by its contract, without looking at the frame. -/
theorem wp_fn {P : Program} {o : Oper} {a : Act} {w : World} {K : Act → World → Prop} {Q : Exit → Act → World → Prop} (f : FuncId) (xs : Array Operand) (ts : Array TypeId)
    (ho : o.op = .call { callee := .value (.func f), args := xs, argTypes := ts }) (vs : Array Value) (hv : xs.toList.map a.eval = vs.toList) (hc : ∀ (vs : Array Value) (w : World), (callFunc f vs).run P w = .ok (.enter f vs) w) {R : Ending → World → Prop} (h : Calls P f vs w R)
    (hr : ∀ e w', R e w' → ∃ v, e = .returned v ∧ K (a.put o.dst v) w') : o.wp P a w K Q := by
  have hv' : xs.map a.eval = vs := Array.toList_inj.1 (by rw [Array.toList_map]; exact hv)
  unfold Oper.wp execOp
  simp only [ho, resolve, invoke, Sem.run_bind, Sem.run_pure, Result.andThen_ok, hv']
  have e : (Deferred.ofValue (a.eval (Operand.func f)) vs).run P w = .ok { target := .fn (.func f) #[], args := vs } w := by
    simp [Deferred.ofValue, go_sem]
  rw [e]
  simp only [Result.andThen_ok, Array.append_empty, hc]
  refine Calls.mono h fun e w' he => ?_
  obtain ⟨v, rfl, hk⟩ := hr e w' he
  exact hk
theorem wp_store_blk {P : Program} {o : Oper} {a : Act} {w : World} {K : Act → World → Prop} {Q : Exit → Act → World → Prop} (ty : TypeId) (x y : Operand) (ho : o.op = .store ty x y)
    (b : Nat) (t : TypeId) (cur cells : Array Value) (hb : Blk w b t cur) (hx : a.eval x = .pointer (some ⟨b, 0, none⟩)) (hy : a.eval y = .agg cells) (hs : cells.size = cur.size) (hi : (P.info? ty).map (·.size) = some cells.size) (h1 : cells.all (·.oneCell') = true)
    (h : ∀ w', Blk w' b t cells → Tn b (b + 1) w w' → K (a.put o.dst undef) w') : o.wp P a w K Q := by
  refine wp_store_mid ty x y ho b 0 cells hx hy (hb.there 0 _ (by omega)) hi h1 (h _ ?_ (Tn.sets (Nat.le_refl _) (Nat.lt_succ_self _) _ _ _))
  have := hb.sets (vs := cells.toList) (o := 0) (by simp [hs])
  rw [List.take_zero, List.nil_append, Nat.zero_add, List.drop_eq_nil_of_le (by simp [hs]), List.append_nil] at this
  exact this
end Go.Proofs.Ytpjbeodnalgkfaa

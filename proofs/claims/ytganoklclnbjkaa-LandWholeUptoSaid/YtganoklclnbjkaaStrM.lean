/- Layer 10: the mathematics of records' bytes: what is encoded is read, however it is cut; bytes tell one record alone. Nothing of the program is named here. -/
import Derived.Test.YtganoklclnbjkaaBloM
set_option linter.all false
namespace Go.Proofs.Ytganoklclnbjkaa.Str

/-- A record. -/
structure Rec where
  k : Int
  sh : Int
  sn : Int
  ba : Int
  ma : Int
  off : Int
  len : Int
  d : List Nat
deriving DecidableEq

def far (z : Int) : Prop := 0 ≤ z ∧ z ≤ 2147483648
instance (z : Int) : Decidable (far z) := by unfold far; infer_instance
/-- Which kinds of records there are. -/
def Kinds (r : Rec) : Prop :=
  (r.k = 1 ∧ r.off = 0 ∧ r.d = []) ∨
  (r.k = 2 ∧ r.sh = 0 ∧ r.sn = 0 ∧ r.ba = 0 ∧ r.ma = 0 ∧ r.len = 0 ∧ 1 ≤ r.d.length ∧ r.d.length ≤ 64) ∨
  (r.k = 3 ∧ r.sh = 0 ∧ r.sn = 0 ∧ r.ba = 0 ∧ r.ma = 0 ∧ 1 ≤ r.len ∧ r.d = []) ∨
  (r.k = 4 ∧ r.sh = 0 ∧ r.sn = 0 ∧ r.ba = 0 ∧ r.ma = 0 ∧ r.off = 0 ∧ r.d = [])
instance (r : Rec) : Decidable (Kinds r) := by unfold Kinds; infer_instance
/-- Is it a record? -/
def MayR (r : Rec) : Prop := Kinds r ∧ far r.sh ∧ far r.sn ∧ far r.ba ∧ far r.ma ∧ far r.off ∧ far r.len
instance (r : Rec) : Decidable (MayR r) := by unfold MayR; infer_instance
/-- Numbers of 64 bits. -/
def W64 (l : List Nat) : Prop := ∀ x ∈ l, x < 18446744073709551616

theorem Kinds.kind {r : Rec} (h : Kinds r) : 1 ≤ r.k ∧ r.k ≤ 4 := by
  rcases h with h | h | h | h <;> omega
theorem Kinds.data {r : Rec} (h : Kinds r) : r.d.length ≤ 64 := by
  rcases h with ⟨_, _, h⟩ | ⟨_, _, _, _, _, _, _, h⟩ | ⟨_, _, _, _, _, _, h⟩ | ⟨_, _, _, _, _, _, h⟩ <;> simp_all

end Go.Proofs.Ytganoklclnbjkaa.Str

/- Layer 16: the document's Msgs. -/
import Derived.Test.YtlmaelbalmjlbaaSesG
import Derived.Test.YtlmaelbalmjlbaaNetE
import Derived.Deep.DeepCutAuto
set_option linter.all false
namespace Go.Proofs.Ytlmaelbalmjlbaa
open Go.RowKit
namespace Ses
open Net
theorem two_get {w : World} {B C : Nat} {A A2 : Option Addr} {n c c2 : Nat} {P Q : List (Ms × Value)} (hP : Prw w B (.slice A n c) P) (hQ : Prw w C (.slice A2 n c2) Q) (h : P.map (·.1) = Q.map (·.1)) {i : Nat} (hi : i < P.length) :
    ∃ g X p d g2 X2 p2 d2 m, A = some ⟨g, 0, none⟩ ∧ A2 = some ⟨g2, 0, none⟩ ∧ Mdt w m X p d ∧ Mdt w m X2 p2 d2 ∧ g < w.heap.size ∧ g2 < w.heap.size ∧ w.cell? ⟨g, i * 7, none⟩ = some (.int .i64 m.fr) ∧ w.cell? ⟨g, i * 7 + 1, none⟩ = some (.int .i64 m.to) ∧ w.cell? ⟨g, i * 7 + 2, none⟩ = some (.int .i64 m.k) ∧ w.cell? ⟨g, i * 7 + 3, none⟩ = some (.int .i64 m.ep) ∧ w.cell? ⟨g, i * 7 + 4, none⟩ = some (.int .i64 m.sq) ∧ w.cell? ⟨g, i * 7 + 5, none⟩ = some (.int .i64 m.ac) ∧ w.cell? ⟨g, i * 7 + 6, none⟩ = some (.slice X p d) ∧ w.cell? ⟨g2, i * 7, none⟩ = some (.int .i64 m.fr) ∧ w.cell? ⟨g2, i * 7 + 1, none⟩ = some (.int .i64 m.to) ∧ w.cell? ⟨g2, i * 7 + 2, none⟩ = some (.int .i64 m.k) ∧ w.cell? ⟨g2, i * 7 + 3, none⟩ = some (.int .i64 m.ep) ∧ w.cell? ⟨g2, i * 7 + 4, none⟩ = some (.int .i64 m.sq) ∧ w.cell? ⟨g2, i * 7 + 5, none⟩ = some (.int .i64 m.ac) ∧ w.cell? ⟨g2, i * 7 + 6, none⟩ = some (.slice X2 p2 d2) := by
  have hlen : Q.length = P.length := by have := congrArg List.length h; simpa using this.symm
  have hj : i < Q.length := by omega
  obtain ⟨g, X, p, d, e, -, hM, -, -, hgl, -, e0, e1, e2, e3, e4, e5, e6⟩ := hP.get hi
  obtain ⟨g2, X2, p2, d2, e', -, hM2, -, -, hgl2, -, j0, j1, j2, j3, j4, j5, j6⟩ := hQ.get hj
  have hsame : P[i].1 = Q[i].1 := by
    have h1 := congrArg (fun l => l[i]?) h
    simp only [List.getElem?_map] at h1
    rw [List.getElem?_eq_getElem hi, List.getElem?_eq_getElem hj] at h1
    simpa using h1
  rw [← hsame] at hM2 j0 j1 j2 j3 j4 j5
  exact ⟨g, X, p, d, g2, X2, p2, d2, P[i].1, e, e', hM, hM2, hgl, hgl2, e0, e1, e2, e3, e4, e5, e6, j0, j1, j2, j3, j4, j5, j6⟩
section
variable (w : World)
set_option maxRecDepth 100000 in
set_option maxHeartbeats 4000000 in
theorem rmsgs_ (B C : Nat) (u v : Value) (P Q : List (Ms × Value)) (hP : Prw w B u P) (hQ : Prw w C v Q) (h : P.map (·.1) = Q.map (·.1)) :
    Calls Try.prog 14 #[u, v] w fun z w' => z = .returned (.bool true) ∧ Below w.heap.size w w' := by
  obtain ⟨A, c, rfl, hc, hm, hA⟩ := own_form hP.row
  obtain ⟨A2, c2, rfl, hc2, hm2, hA2⟩ := own_form hQ.row
  have hlen : Q.length = P.length := by have := congrArg List.length h; simpa using this.symm
  obtain ⟨n, hn⟩ : ∃ n, P.length = n := ⟨_, rfl⟩
  have Hn := Lib.hid hn
  rw [hn] at hlen
  have HQn := Lib.hid hlen
  have H := Lib.hid h
  rw [hn] at hP hc hA ⊢
  rw [hlen] at hQ hc2 hA2 ⊢
  have HP := Lib.hid hP
  have HQ := Lib.hid hQ
  unfold maxLen at hm
  have hn63 : n ≤ 9223372036854775807 := by omega
  clear hn hlen h hP hQ hc hc2 hm2 hA hA2
  have tn : ((n : Int) != (n : Int)) = false := ne_f rfl
  go_enter Try.func14, Try.ntmps14
  go_wp2_with fail
  go_loopw [5] (fun iv wr => ∃ i : Nat, i ≤ n ∧ iv = .int .i64 (i : Int) ∧ Below w.heap.size w wr) (fun iv _ => n - (intOf iv).toNat)
  case atStart => exact ⟨0, Nat.zero_le _, rfl, Below.refl _ _⟩
  case round =>
    obtain ⟨i, hi, rfl, hB⟩ := hrel
    have hi0 : (0 : Int) ≤ (i : Int) := by omega
    by_cases hlt : i < n
    · have hil : (i : Int) < (n : Int) := by omega
      have hPr := HP.out.keep hB
      have hQr := HQ.out.keep hB
      obtain ⟨g, X, p, d, g2, X2, p2, d2, m, rfl, rfl, hM, hM2, hgl, hgl2, e0, e1, e2, e3, e4, e5, e6, j0, j1, j2, j3, j4, j5, j6⟩ := two_get hPr hQr H.out (i := i) (by have := Hn.out; omega)
      have hR : ∀ k, Calls Try.prog 34 #[.agg (ma m (.slice X p d)), .agg (ma m (.slice X2 p2 d2))] (wr.drewN k) (fun e w' => e = .returned (.bool true) ∧ Below wr.heap.size wr w') := fun k => by
        refine (rsame_ (wr.drewN k) m m X X2 p d p2 d2 (mdt_drewN hM k) (mdt_drewN hM2 k)).mono ?_
        rintro r w' ⟨rfl, hb⟩
        exact ⟨by rw [decide_eq_true rfl], ⟨hb.os, hb.tape, hb.output, hb.size, hb.block⟩⟩
      have hsr := hB.size
      clear hPr hQr hM hM2
      go_wp2_with fail
      go_region_held3 (fun w2 => w2.cell? ⟨g, i * 7, none⟩ = some (.int .i64 m.fr) ∧ w2.cell? ⟨g, i * 7 + 1, none⟩ = some (.int .i64 m.to) ∧ w2.cell? ⟨g, i * 7 + 2, none⟩ = some (.int .i64 m.k) ∧ w2.cell? ⟨g, i * 7 + 3, none⟩ = some (.int .i64 m.ep) ∧ w2.cell? ⟨g, i * 7 + 4, none⟩ = some (.int .i64 m.sq) ∧ w2.cell? ⟨g, i * 7 + 5, none⟩ = some (.int .i64 m.ac) ∧ w2.cell? ⟨g, i * 7 + 6, none⟩ = some (.slice X p d) ∧ w2.cell? ⟨g2, i * 7, none⟩ = some (.int .i64 m.fr) ∧ w2.cell? ⟨g2, i * 7 + 1, none⟩ = some (.int .i64 m.to) ∧ w2.cell? ⟨g2, i * 7 + 2, none⟩ = some (.int .i64 m.k) ∧ w2.cell? ⟨g2, i * 7 + 3, none⟩ = some (.int .i64 m.ep) ∧ w2.cell? ⟨g2, i * 7 + 4, none⟩ = some (.int .i64 m.sq) ∧ w2.cell? ⟨g2, i * 7 + 5, none⟩ = some (.int .i64 m.ac) ∧ w2.cell? ⟨g2, i * 7 + 6, none⟩ = some (.slice X2 p2 d2))
        (first | go_keep | exact ⟨e0, e1, e2, e3, e4, e5, e6, j0, j1, j2, j3, j4, j5, j6⟩ | exact ⟨(hb2.cell (show g < _ from hgl)).trans e0, (hb2.cell (show g < _ from hgl)).trans e1, (hb2.cell (show g < _ from hgl)).trans e2, (hb2.cell (show g < _ from hgl)).trans e3, (hb2.cell (show g < _ from hgl)).trans e4, (hb2.cell (show g < _ from hgl)).trans e5, (hb2.cell (show g < _ from hgl)).trans e6, (hb2.cell (show g2 < _ from hgl2)).trans j0, (hb2.cell (show g2 < _ from hgl2)).trans j1, (hb2.cell (show g2 < _ from hgl2)).trans j2, (hb2.cell (show g2 < _ from hgl2)).trans j3, (hb2.cell (show g2 < _ from hgl2)).trans j4, (hb2.cell (show g2 < _ from hgl2)).trans j5, (hb2.cell (show g2 < _ from hgl2)).trans j6⟩)
        (first | (go_at_call 34; refine (hR _).mono ?_; rintro r w2 ⟨rfl, hb2⟩))
      go_wp2
      exact ⟨⟨i + 1, by omega, by go_num, hB.trans (hb2.mono hsr)⟩, by simp [intOf]; omega⟩
    · have hil : ¬ (i : Int) < (n : Int) := by omega
      go_wp2
      go_ret
      exact ⟨rfl, hB⟩
end
end Ses
end Go.Proofs.Ytlmaelbalmjlbaa

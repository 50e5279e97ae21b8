/- Layer 7: what is near some blocks, of any tree. -/
import Derived.Test.YtiehhmchokbafaaCowQa
set_option linter.all false
namespace Go.Proofs.Ytiehhmchokbafaa
open Go.RowKit

theorem near_ (S : Nat → Prop) (b e : Int) (fb : I64 b) (fe : I64 e) : ∀ (t : Tr) (lo : Int), listFrom lo t.list = true → Nears S t b e
  | .nil, _, _ => near_nil S b e
  | .node nw L kx R, q, hl => by
    obtain ⟨l1, l2, l3, l4, l5⟩ := listFrom_mid (show listFrom q (L.list ++ kx :: R.list) = true from hl)
    have hxl := may_len l3
    have ihL := near_ S b e fb fe L _ l1
    have ihR := near_ S b e fb fe R _ l5
    have hlL := nearT_len (b := b) (e := e) l1
    intro a w B v m acc h ho hB hs
    have hN : nearT (.node nw L kx R) b e = (if b ≤ kx.off then nearT L b e else []) ++ ((if b ≤ kx.off + kx.len ∧ kx.off ≤ e then [kx] else []) ++ (if kx.off + kx.len ≤ e then nearT R b e else [])) := rfl
    by_cases hna : b ≤ kx.off + kx.len
    · by_cases hnb : kx.off ≤ e
      · by_cases c1 : b ≤ kx.off
        · by_cases c3 : kx.off + kx.len ≤ e
          · rw [if_pos c1, if_pos ⟨hna, hnb⟩, if_pos c3] at hN
            exact (near_p1 S nw L R kx b e fb fe l3 c1 hna hnb c3 hlL ihL ihR a w B v m acc h ho hB hs).mono fun _ _ ⟨v', m', he, ho', ha⟩ => ⟨v', m', he, (by rw [hN]; simpa only [List.append_assoc, List.nil_append, List.append_nil] using ho'), ha⟩
          · rw [if_pos c1, if_pos ⟨hna, hnb⟩, if_neg c3] at hN
            exact (near_p2 S nw L R kx b e fb fe l3 c1 hna hnb c3 hlL ihL ihR a w B v m acc h ho hB hs).mono fun _ _ ⟨v', m', he, ho', ha⟩ => ⟨v', m', he, (by rw [hN]; simpa only [List.append_assoc, List.nil_append, List.append_nil] using ho'), ha⟩
        · by_cases c3 : kx.off + kx.len ≤ e
          · rw [if_neg c1, if_pos ⟨hna, hnb⟩, if_pos c3] at hN
            exact (near_p3 S nw L R kx b e fb fe l3 c1 hna hnb c3 hlL ihL ihR a w B v m acc h ho hB hs).mono fun _ _ ⟨v', m', he, ho', ha⟩ => ⟨v', m', he, (by rw [hN]; simpa only [List.append_assoc, List.nil_append, List.append_nil] using ho'), ha⟩
          · rw [if_neg c1, if_pos ⟨hna, hnb⟩, if_neg c3] at hN
            exact (near_p4 S nw L R kx b e fb fe l3 c1 hna hnb c3 hlL ihL ihR a w B v m acc h ho hB hs).mono fun _ _ ⟨v', m', he, ho', ha⟩ => ⟨v', m', he, (by rw [hN]; simpa only [List.append_assoc, List.nil_append, List.append_nil] using ho'), ha⟩
      · have c3 : ¬ kx.off + kx.len ≤ e := by omega
        by_cases c1 : b ≤ kx.off
        · rw [if_pos c1, if_neg (fun h => hnb h.2), if_neg c3] at hN
          exact (near_p7 S nw L R kx b e fb fe l3 c1 hna hnb c3 hlL ihL ihR a w B v m acc h ho hB hs).mono fun _ _ ⟨v', m', he, ho', ha⟩ => ⟨v', m', he, (by rw [hN]; simpa only [List.append_assoc, List.nil_append, List.append_nil] using ho'), ha⟩
        · rw [if_neg c1, if_neg (fun h => hnb h.2), if_neg c3] at hN
          exact (near_p8 S nw L R kx b e fb fe l3 c1 hna hnb c3 hlL ihL ihR a w B v m acc h ho hB hs).mono fun _ _ ⟨v', m', he, ho', ha⟩ => ⟨v', m', he, (by rw [hN]; simpa only [List.append_assoc, List.nil_append, List.append_nil] using ho'), ha⟩
    · have c1 : ¬ b ≤ kx.off := by omega
      by_cases c3 : kx.off + kx.len ≤ e
      · rw [if_neg c1, if_neg (fun h => hna h.1), if_pos c3] at hN
        exact (near_p5 S nw L R kx b e fb fe l3 c1 hna c3 hlL ihL ihR a w B v m acc h ho hB hs).mono fun _ _ ⟨v', m', he, ho', ha⟩ => ⟨v', m', he, (by rw [hN]; simpa only [List.append_assoc, List.nil_append, List.append_nil] using ho'), ha⟩
      · rw [if_neg c1, if_neg (fun h => hna h.1), if_neg c3] at hN
        exact (near_p6 S nw L R kx b e fb fe l3 c1 hna c3 hlL ihL ihR a w B v m acc h ho hB hs).mono fun _ _ ⟨v', m', he, ho', ha⟩ => ⟨v', m', he, (by rw [hN]; simpa only [List.append_assoc, List.nil_append, List.append_nil] using ho'), ha⟩
end Go.Proofs.Ytiehhmchokbafaa

/-
  Keys that rise are told apart. No conditions.
-/
import Derived.Test.YtfeeejigedndcaaGreatMQM
import Derived.Test.YtfeeejigedndcaaGreatMGY
namespace Go.Proofs.YtfeeejigedndcaaGreat
open Go.ChangeShapes Go.WideShapes Go.ChangeAt Go.RowKit
set_option maxRecDepth 100000

theorem riseK_cons {last k : ByteArray} {r : List ByteArray} : riseK last (k :: r) = true ↔ ltK last k ∧ k.size ≤ 96 ∧ riseK k r = true := by
  rw [ltK_iff]
  show (!(Op.bytesLess k.toList last.toList || k.toList == last.toList) && (decide (k.size ≤ 96) && riseK k r)) = true ↔ _
  rw [Bool.and_eq_true, Bool.and_eq_true, Bool.not_eq_true', decide_eq_true_eq]
theorem riseK_all : ∀ (ks : List ByteArray) (last : ByteArray), riseK last ks = true → (∀ k ∈ ks, ltK last k ∧ k.size ≤ 96) ∧ ks.Pairwise ltK
  | [], last, h => ⟨fun k hk => (by cases hk), List.Pairwise.nil⟩
  | x :: ks, last, h => by
    obtain ⟨h1, h2, h3⟩ := riseK_cons.1 h
    obtain ⟨i1, i2⟩ := riseK_all ks x h3
    refine ⟨fun k hk => ?_, List.pairwise_cons.2 ⟨fun k hk => (i1 k hk).1, i2⟩⟩
    rcases List.mem_cons.1 hk with rfl | hk
    · exact ⟨h1, h2⟩
    · exact ⟨ltK_trans h1 (i1 k hk).1, (i1 k hk).2⟩
theorem objE_ok {l : List PO} (h : objE l = 0) : l.length ≤ 256 ∧ riseK ByteArray.empty (l.map (·.key)) = true ∧ ∀ o ∈ l, o.data.length ≤ 65536 := by
  unfold objE at h
  split at h
  · cases h
  · rename_i h1
    split at h
    · cases h
    · rename_i h2
      split at h
      · rename_i h3
        rw [List.all_eq_true] at h3
        exact ⟨by omega, by simpa using h2, fun o ho => by simpa using h3 o ho⟩
      · cases h
theorem objE_keys {l : List PO} (h : objE l = 0) : (∀ o ∈ l, o.key.size ≤ 96 ∧ ltK ByteArray.empty o.key) ∧ l.Pairwise fun a b => a.key ≠ b.key := by
  obtain ⟨h1, h2, h3⟩ := objE_ok h
  obtain ⟨i1, i2⟩ := riseK_all _ _ h2
  refine ⟨fun o ho => ?_, ?_⟩
  · have := i1 o.key (List.mem_map.2 ⟨o, ho, rfl⟩)
    exact ⟨this.2, this.1⟩
  · exact (List.pairwise_map.1 i2).imp fun h => ltK_ne h

end Go.Proofs.YtfeeejigedndcaaGreat

/-
  Holds, plainly: what is held is not destroyed, nor is its set; released it is as it was. No conditions.
-/
import Derived.Test.YtimmcmjipmkebaaGreatUTNP
namespace Go.Proofs.YtimmcmjipmkebaaGreat
set_option maxRecDepth 100000
/-! ## All that are held -/
theorem idxOf_here {c : UInt8} : ∀ {a : List UInt8} (b : List UInt8), c ∉ a → (a ++ c :: b).idxOf? c = some a.length
  | [], b, _ => by simp [List.idxOf?_cons]
  | x :: a, b, h => by
    have hx : (x == c) = false := beq_eq_false_iff_ne.2 fun e => h (by simp [e])
    rw [List.cons_append, List.idxOf?_cons, hx]
    rw [if_neg Bool.false_ne_true, idxOf_here b (fun e => h (by simp [e]))]
    rfl
def atT (p n : ByteArray) : ByteArray := ofL (bs p ++ 64 :: bs n)
theorem splitP_join {p n : ByteArray} (hp : isPath (bs p) = true) (hn : isName (bs n) = true) : splitP (atT p n) = some (p, n) := by
  unfold splitP atT
  rw [bs_ofL, idxOf_here _ (isPath_no64 hp)]
  dsimp only
  rw [List.take_left, show (bs p ++ 64 :: bs n).drop ((bs p).length + 1) = bs n by rw [List.drop_append]; simp, hp, hn, ofL_bs, ofL_bs]
  rfl
theorem splitP_iff {s p n : ByteArray} : splitP s = some (p, n) ↔ s = atT p n ∧ isPath (bs p) = true ∧ isName (bs n) = true := by
  constructor
  · intro h
    obtain ⟨h1, h2, h3⟩ := splitP_bs h
    refine ⟨?_, h2, h3⟩
    unfold atT
    rw [← h1, ofL_bs]
  · rintro ⟨rfl, h2, h3⟩
    exact splitP_join h2 h3
end Go.Proofs.YtimmcmjipmkebaaGreat

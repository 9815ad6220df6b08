/-
  What may be has short texts. No conditions.
-/
import Derived.Test.YtimmcmjipmkebaaGreatUTCU
import Derived.Test.YtimmcmjipmkebaaGreatUTMD
namespace Go.Proofs.YtimmcmjipmkebaaGreat
open Go.ChangeShapes Go.WideShapes Go.ChangeAt Go.RowKit
set_option maxRecDepth 100000
theorem upB_len {t : PTenant} {p : ByteArray} (h : upB t p = true) : p.size ≤ 67 ∨ p = ByteArray.empty := by
  unfold upB at h
  rcases hu : upP p with _ | u
  · rw [hu] at h
    unfold upP at hu
    split at hu
    · rename_i e
      rcases e with e | e
      · right
        simpa using h
      · exact .inr e
    · cases hu
  · unfold upP at hu
    split at hu
    · cases hu
    · rename_i e
      left
      refine path_len ?_
      rcases hb : isPath (bs p) with _ | _
      · exact absurd (Or.inl hb) e
      · rfl
theorem splitP_len {s q r : ByteArray} (h : splitP s = some (q, r)) : s.size ≤ 200 := by
  unfold splitP at h
  split at h
  · cases h
  · rename_i i hi
    split at h
    · rename_i hb
      rw [Bool.and_eq_true] at hb
      have h1 : (ofL ((bs s).take i)).size ≤ 67 := path_len (by rw [bs_ofL]; exact hb.1)
      have h2 : (ofL ((bs s).drop (i + 1))).size ≤ 16 := name_le (by rw [bs_ofL]; exact hb.2)
      have h3 : (bs (ofL ((bs s).take i))).length = (ofL ((bs s).take i)).size := bs_length _
      have h4 : (bs (ofL ((bs s).drop (i + 1)))).length = (ofL ((bs s).drop (i + 1))).size := bs_length _
      rw [bs_ofL, List.length_take] at h3
      rw [bs_ofL, List.length_drop] at h4
      have h5 : (bs s).length = s.size := bs_length _
      omega
    · cases h
theorem tiny_of {y : MTenant} (h : okT y.plain = true) : y.Tiny := by
  obtain ⟨⟨_, _, _, hg, _, _, hst, hlo⟩, _, _, hse⟩ := okT_parts.1 h
  have hs1 := (goodL_iff (fun a b c => ltPath_trans a b c)).1 hse
  refine ⟨fun s hs => ?_, fun s hs => ?_, fun s hs => ?_, fun g hgm => ?_⟩
  · have h1 := hs1.1 s.plain (List.mem_map.2 ⟨s, hs, rfl⟩)
    unfold setB at h1
    simp only [Bool.and_eq_true] at h1
    refine ⟨?_, ?_⟩
    · rcases upB_len h1.1 with e | e
      · exact Nat.le_trans e (by decide)
      · have : s.path_ = ByteArray.empty := e
        rw [this]
        decide
    · have h2 := h1.2.2.2.2
      unfold origB at h2
      rw [Bool.or_eq_true] at h2
      rcases h2 with e | e
      · have e2 : s.origin_ = ByteArray.empty := of_decide_eq_true e
        rw [e2]
        decide
      · rcases hq : splitP s.origin_ with _ | ⟨q, r⟩
        · have : splitP s.plain.origin_ = none := hq
          rw [this] at e
          cases e
        · exact Nat.le_trans (splitP_len hq) (by decide)
  · have h1 : goodL stageB ltInto y.plain.stages_ = true := hst
    unfold goodL at h1
    rw [Bool.and_eq_true, List.all_eq_true] at h1
    have h2 := h1.1 s.plain (List.mem_map.2 ⟨s, hs, rfl⟩)
    unfold stageB at h2
    simp only [Bool.and_eq_true] at h2
    exact Nat.le_trans (path_len h2.2.1) (by decide)
  · rw [List.all_eq_true] at hlo
    have h2 := hlo s.plain (List.mem_map.2 ⟨s, hs, rfl⟩)
    unfold entryB at h2
    simp only [Bool.and_eq_true] at h2
    exact Nat.le_trans (path_len h2.2.1) (by decide)
  · exact Nat.le_trans (okG_mem hg g hgm).2.1 (by decide)
end Go.Proofs.YtimmcmjipmkebaaGreat

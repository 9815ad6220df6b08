/-
  shape: With. Conditions: the tenant and the set are as they come in, with room for one more.
-/
import Derived.Test.YtimmcmjipmkebaaGreatRHCC
import Derived.Test.YtimmcmjipmkebaaGreatRTMG
import Derived.Test.YtimmcmjipmkebaaGreatRHLB
import Derived.Test.YtimmcmjipmkebaaGreatRTCU
import Derived.Test.YtimmcmjipmkebaaGreatRTMB
import Derived.Test.YtimmcmjipmkebaaGreatRUSF
import Derived.Test.YtimmcmjipmkebaaGreatREVStage
namespace Go.Proofs.YtimmcmjipmkebaaGreat
open Go.ChangeShapes Go.WideShapes Go.ChangeAt Go.RowKit
set_option maxRecDepth 100000
set_option linter.unusedSimpArgs false
theorem mid_good {W W' : World} {x : MTenant} (h : x.Good W) (hB : Below W.heap.size W W') {n c : Nat} {A : Option Addr} {l : List MSet} (ho : W'.ownsRow n 52 5 (.slice A l.length c) l.length (l.flatMap MSet.cells)) (hl : l.length * 104 ≤ 140737488351232) (hg : ∀ s ∈ l, s.Good W) : ({ x with sets_ := ⟨A, l, c⟩ } : MTenant).Good W' := by
  obtain ⟨A2, c2, hv, hcap, hnil, hrd, _⟩ := ownAny ho
  injection hv with v1 v2 v3
  have h2 := h.below hB
  exact ⟨h2.gname_, h2.gquota_, h2.gnext_, ⟨by rw [v1]; exact hrd.1, fun s hs => (hg s hs).below hB, by rw [v3]; exact hcap, by rw [v1, v3]; exact hnil, hl⟩, h2.ggrants_, h2.gstages_, h2.glog_⟩
theorem Oth.more {C : Nat} {Z W W' : World} (h : Oth C Z W) (hB : Below Z.heap.size W W') : Oth C Z W' := ⟨hB.os.trans h.os, hB.tape.trans h.tape, hB.output.trans h.output, Nat.le_trans h.size hB.size, fun k hk hc => (hB.block k hk).trans (h.block k hk hc)⟩
theorem Oth.keeps {C : Nat} {Z W : World} (h : Oth C Z W) {cs : List Value} (hb : Blk Z C 27 cs) : Keeps 27 Z W := fun b cur e' hbb hne => h.block b (Array.getElem?_eq_some_iff.1 hbb).1 (by
  rintro rfl
  unfold Blk at hb
  rw [hbb] at hb
  injection hb with hb
  injection hb with _ h6 _
  exact hne h6)
end Go.Proofs.YtimmcmjipmkebaaGreat

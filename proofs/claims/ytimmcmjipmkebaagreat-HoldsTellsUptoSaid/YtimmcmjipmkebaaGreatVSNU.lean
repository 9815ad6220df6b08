/-
 Where a set and its snapshot stand, and what the calls ask in their own order. No conditions.
-/
import Derived.Test.YtimmcmjipmkebaaGreatVTMG
namespace Go.Proofs.YtimmcmjipmkebaaGreat
open Go.ChangeShapes Go.WideShapes Go.ChangeAt Go.RowKit
set_option maxRecDepth 100000
set_option linter.unusedSimpArgs false
def setZ : MSet := ⟨ByteArray.empty, ByteArray.empty, ⟨none, [], 0⟩, ⟨none, [], 0⟩, ⟨none, [], 0⟩⟩
def snapZ : Mna := ⟨ByteArray.empty, 0, ⟨none, [], 0⟩, ⟨none, [], 0⟩, ⟨none, [], 0⟩⟩
def atS (x : MT_) (p : ByteArray) : MSet := if findM x p < 0 then setZ else x.y_.l[(findM x p).toNat]?.getD setZ
def atN (x : MT_) (p n : ByteArray) : Int := if findM x p < 0 then -1 else snapM (atS x p) n
def atY (x : MT_) (p n : ByteArray) : Mna := if atN x p n < 0 then snapZ else (atS x p).n_.l[(atN x p n).toNat]?.getD snapZ
def orL : List Int → Int
 | [] => 0
 | x :: l => if x ≠ 0 then x else orL l
def whenI (e : Int) (b : Bool) : Int := if b = true then e else 0
theorem orL_cons (x : Int) (l : List Int) : orL (x :: l) = if x ≠ 0 then x else orL l := rfl
theorem orL_nil : orL [] = 0 := rfl
theorem zhX (x : MT_) (p n : ByteArray) :
 (findM x p = -1 ∧ atS x p = setZ ∧ atN x p n = -1 ∧ atY x p n = snapZ ∧ setAt x.plain p = none) ∨
 (∃ (j : Nat) (s : MSet), findM x p = j ∧ x.y_.l[j]? = some s ∧ s.l_ = p ∧ atS x p = s ∧ atN x p n = -1 ∧ atY x p n = snapZ ∧ setAt x.plain p = some s.plain ∧ zeQ s.plain n = false ∧ snapOf s.plain n = none ∧ snapM s n = -1) ∨
 (∃ (j : Nat) (s : MSet) (k : Nat) (y : Mna), findM x p = j ∧ x.y_.l[j]? = some s ∧ s.l_ = p ∧ atS x p = s ∧ atN x p n = k ∧ s.n_.l[k]? = some y ∧ y.x_ = n ∧ atY x p n = y ∧ setAt x.plain p = some s.plain ∧ zeQ s.plain n = true ∧ snapOf s.plain n = some y.plain ∧ snapM s n = k ∧ (∀ z ∈ s.n_.l.take k, z.x_ ≠ n)) := by
 rcases set_ways x p with ⟨a, b⟩ | ⟨j, s, a, b, c, d⟩
 · refine .inl ⟨a, ?_, ?_, ?_, b⟩
   · unfold atS; rw [a, if_pos (by decide)]
   · unfold atN; rw [a, if_pos (by decide)]
   · have h9 : atN x p n = -1 := by unfold atN; rw [a, if_pos (by decide)]
     unfold atY; rw [h9, if_pos (by decide)]
 · right
   have e1 : atS x p = s := by
    unfold atS
    rw [a, if_neg (by omega), Int.toNat_natCast, b]
    rfl
   have e2 : atN x p n = snapM s n := by
    unfold atN
    rw [a, if_neg (by omega), e1]
   rcases findI_ways (fun z : Mna => decide (z.x_ = n)) s.n_.l with ⟨f, g⟩ | ⟨k, y, f, g, h, i⟩
   · refine .inl ⟨j, s, a, b, c, e1, by rw [e2]; exact f, ?_, d, ?_, ?_, f⟩
     · unfold atY
       rw [e2, show snapM s n = -1 from f, if_pos (by decide)]
     · unfold zeQ
       rw [List.any_eq_false]
       intro z hz
       obtain ⟨z2, hz2, rfl⟩ := List.mem_map.1 (show z ∈ s.n_.l.map Mna.plain from hz)
       have := g z2 hz2
       rw [decide_eq_false_iff_not] at this
       rw [decide_eq_true_eq]
       exact this
     · unfold snapOf
       rw [List.find?_eq_none]
       intro z hz
       obtain ⟨z2, hz2, rfl⟩ := List.mem_map.1 (show z ∈ s.n_.l.map Mna.plain from hz)
       have := g z2 hz2
       rw [decide_eq_false_iff_not] at this
       rw [decide_eq_true_eq]
       exact this
   · have hn : y.x_ = n := by simpa using h
     have hi : ∀ z ∈ s.n_.l.take k, z.x_ ≠ n := fun z hz => by simpa using i z hz
     refine .inr ⟨j, s, k, y, a, b, c, e1, by rw [e2]; exact f, g, hn, ?_, d, ?_, ?_, f, hi⟩
     · unfold atY
       rw [e2, show snapM s n = (k : Int) from f, if_neg (by omega), Int.toNat_natCast, e1, g]
       rfl
     · unfold zeQ
       rw [List.any_eq_true]
       exact ⟨y.plain, List.mem_map.2 ⟨y, mG g, rfl⟩, by rw [decide_eq_true_eq]; exact hn⟩
     · unfold snapOf
       have hk := (List.getElem?_eq_some_iff.1 g).1
       have hsp : s.n_.l = s.n_.l.take k ++ y :: s.n_.l.drop (k + 1) := by
        rw [← (List.getElem?_eq_some_iff.1 g).2, ← List.drop_eq_getElem_cons hk, List.take_append_drop]
       show (s.n_.l.map Mna.plain).find? _ = _
       rw [hsp, List.map_append, List.find?_append, List.find?_eq_none.2, List.map_cons, List.find?_cons_of_pos (by rw [decide_eq_true_eq]; exact hn)]
       · rfl
       · intro z hz
         obtain ⟨z2, hz2, rfl⟩ := List.mem_map.1 hz
         rw [decide_eq_true_eq]
         exact hi z2 hz2
/-! ## What is asked -/
theorem foundE_is (x : MT_) (p n : ByteArray) (more must : Bool) : zfX x.plain p n more must = orL [if okT x.plain = true then 0 else 9, whenI 31 (!zeX (bs p) || !zaQ (bs n) || !more), whenI 71 (decide (findM x p < 0)), whenI 71 (must && decide (atN x p n < 0))] := by
 unfold zfX whenI
 rcases h1 : okT x.plain with _ | _
 · simp [orL_cons, orL_nil]
 · rcases h2 : zeX (bs p) with _ | _
   · simp [orL_cons, orL_nil]
   · rcases h3 : zaQ (bs n) with _ | _
     · simp [orL_cons, orL_nil]
     · rcases more with _ | _
       · simp [orL_cons, orL_nil]
       · rcases zhX x p n with ⟨a, b, c, d, e⟩ | ⟨j, s, a, b, b2, c, d, d2, e, f, _⟩ | ⟨j, s, k, y, a, b, b2, c, d, d3, d4, d2, e, f, _⟩
         · rw [e, a, c]; simp [orL_cons, orL_nil]
         · rw [e, a, d]
           have : ¬ (j : Int) < 0 := by omega
           rcases must with _ | _ <;> simp [orL_cons, orL_nil, this, f]
         · rw [e, a, d]
           have h1 : ¬ (j : Int) < 0 := by omega
           have h2 : ¬ (k : Int) < 0 := by omega
           rcases must with _ | _ <;> simp [orL_cons, orL_nil, h1, h2, f]
end Go.Proofs.YtimmcmjipmkebaaGreat

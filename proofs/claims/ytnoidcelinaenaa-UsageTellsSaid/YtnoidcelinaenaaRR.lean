/-
  Regions that draw their order, by facts: what stays is said by any relation to the world that the region began in. No conditions.
-/
import Derived.Test.YtnoidcelinaenaaRF
namespace Go.Proofs.Ytnoidcelinaenaa
open Go.ChangeShapes Go.WideShapes Go.ChangeAt Go.RowKit
set_option maxRecDepth 100000

section
variable {P : Program} {ops : Array Oper} {Q : Exit → Act → World → Prop} {md : Region.Mode} {S : World → Prop} {l : Nat}

/-- Where a set of operations comes up, whatever order is picked, each shown once: what it yields (F, by its slot), and that what lay stays. -/
theorem wpAnyL_factsR (n m r : Nat) (es : List (Nat × Nat)) (F : Nat → Value → World → Prop) (T : World → World → Prop) (R : World → Prop) {listed0 : Array Bool} {a0 : Act} {w0 : World}
    (hchk : factsB md ops listed0 n es = true) (hm : openN es listed0 = m)
    (hR0 : R w0) (hT : ∀ w w', R w → T w w' → R w')
    (hst : AllOf (fun e => ∀ v w w', F e.2 v w → T w w' → F e.2 v w') es)
    (hS : ∀ w', R w' → S w')
    (hop : AllOf (fun e => ∀ (vs : Nat → Value) (w : World), R w → (∀ j ∈ es, waitsFor md ops n e.1 j.1 = true → F j.2 (vs j.2) w) → ∀ o, ops[e.1]? = some o →
      ∀ K' : Act → World → Prop, Shut (∀ v w', F e.2 v w' ∧ T w w' → K' ((fillL es vs a0).put o.dst v) w') →
        if Region.wanted o (yielded ops (fillL es vs a0).tmps) = true then Oper.wp P o (fillL es vs a0) w K' (fun _ _ _ => False) else K' ((fillL es vs a0).put o.dst undef) w) es)
    (hend : ∀ (vs : Nat → Value) (w : World), R w → (∀ e ∈ es, F e.2 (vs e.2) w) → wpAnyL P md ops Q S l r (es.foldl (fun b e => b.setIfInBounds e.1 true) listed0) (fillL es vs a0) w) :
    wpAnyL P md ops Q S l (m + r) listed0 a0 w0 := by
  unfold factsB at hchk
  simp only [Bool.and_eq_true, decide_eq_true_eq] at hchk
  obtain ⟨⟨⟨⟨⟨⟨⟨hns, _⟩, hit⟩, hsz⟩, hall⟩, hes⟩, hn1⟩, hn2⟩ := hchk
  have hsz : listed0.size = ops.size := by simpa using hsz
  have hrow : ∀ (i : Nat) (o : Oper), ops[i]? = some o → (∀ e ∈ o.after, Region.binds md e = true → e.on < i) ∧ (listed0.getD i false = true ∨ ((∀ e ∈ es, e.1 ≠ i) ∧ ∀ e ∈ es, waitsFor md ops n i e.1 = true) ∨ ∃ e ∈ es, e.1 = i ∧ o.dst = some e.2 ∧ ∀ t ∈ o.looksAt ops, ∀ j ∈ es, j.2 = t → waitsFor md ops n i j.1 = true) := by
    intro i o ho
    have hi : i < ops.size := (Array.getElem?_eq_some_iff.1 ho).1
    have := List.all_eq_true.1 hall i (List.mem_range.2 hi)
    rw [ho] at this
    simp only [Bool.and_eq_true, Bool.or_eq_true] at this
    obtain ⟨h1, h2⟩ := this
    refine ⟨fun e he hb => ?_, ?_⟩
    · rw [Array.all_eq_true_iff_forall_mem] at h1
      have := h1 e he
      rw [hb] at this
      simpa using this
    · rcases h2 with h2 | h2
      · exact .inl h2
      · rcases hf : es.find? (fun e => e.1 == i) with _ | e
        · rw [hf] at h2
          rw [List.find?_eq_none] at hf
          exact .inr (.inl ⟨fun e he => by simpa using hf e he, fun e he => List.all_eq_true.1 h2 e he⟩)
        · rw [hf] at h2
          obtain ⟨he, hei⟩ := find_some_of hf
          simp only [Bool.and_eq_true, beq_iff_eq] at h2
          refine .inr (.inr ⟨e, he, hei, h2.1, fun t ht j hj hjt => ?_⟩)
          have := List.all_eq_true.1 (List.all_eq_true.1 h2.2 t ht) j hj
          simp only [Bool.or_eq_true, bne_iff_ne, ne_eq] at this
          exact this.resolve_left (fun h => h hjt)
  have hslot : ∀ e ∈ es, ∀ e' ∈ es, e.2 = e'.2 → e = e' := fun e he e' he' h => by
    obtain ⟨i, hi, rfl⟩ := List.getElem_of_mem he
    obtain ⟨j, hj, rfl⟩ := List.getElem_of_mem he'
    have : i = j := by
      refine (List.getElem_inj (xs := es.map (·.2)) (h₀ := by simpa using hi) (h₁ := by simpa using hj) hn2).1 ?_
      simpa using h
    subst this
    rfl
  have hnum : ∀ e ∈ es, ∀ e' ∈ es, e.1 = e'.1 → e = e' := fun e he e' he' h => by
    obtain ⟨i, hi, rfl⟩ := List.getElem_of_mem he
    obtain ⟨j, hj, rfl⟩ := List.getElem_of_mem he'
    have : i = j := by
      refine (List.getElem_inj (xs := es.map (·.1)) (h₀ := by simpa using hi) (h₁ := by simpa using hj) hn1).1 ?_
      simpa using h
    subst this
    rfl
  have hst' := hst.at_
  have hop' := hop.at_
  clear hst hop hall
  have main : ∀ (m : Nat) (listed : Array Bool) (a : Act) (w : World) (vs : Nat → Value), openN es listed = m → inTurn md ops listed → listed.size = ops.size →
      (∀ k, (∀ e ∈ es, e.1 ≠ k) → listed.getD k false = listed0.getD k false) → laidIn es vs a0 listed a → R w → (∀ e ∈ es, listed.getD e.1 false = true → F e.2 (vs e.2) w) →
      wpAnyL P md ops Q S l (m + r) listed a w := by
    intro m
    induction m with
    | zero =>
      intro listed a w vs hm ht hls hk hla hB hF
      have hall := openN_zero hm
      have he : listed = es.foldl (fun b e => b.setIfInBounds e.1 true) listed0 := by
        have hfs : ∀ (es : List (Nat × Nat)) (b : Array Bool), (es.foldl (fun b e => b.setIfInBounds e.1 true) b).size = b.size := by
          intro es
          induction es with
          | nil => intro b; rfl
          | cons e es ih => intro b; rw [List.foldl_cons, ih]; simp
        have hfa : ∀ (es : List (Nat × Nat)) (b : Array Bool) (k : Nat), (es.foldl (fun b e => b.setIfInBounds e.1 true) b).getD k false = (b.getD k false || (decide (k < b.size) && es.any fun e => e.1 == k)) := by
          intro es
          induction es with
          | nil => intro b k; simp
          | cons e es ih =>
            intro b k
            rw [List.foldl_cons, ih, List.any_cons]
            by_cases h : e.1 = k
            · subst h
              by_cases hs : e.1 < b.size
              · have : (b.setIfInBounds e.1 true).getD e.1 false = true := by simp [hs]
                rw [this]
                simp [hs]
              · have : (b.setIfInBounds e.1 true) = b := by simp [Array.setIfInBounds, hs]
                rw [this]
                simp [hs]
            · have hx : (e.1 == k) = false := beq_eq_false_iff_ne.2 h
              rw [getD_set_ne false h, hx]
              simp
        have hg : ∀ k, listed.getD k false = (es.foldl (fun b e => b.setIfInBounds e.1 true) listed0).getD k false := fun k => by
          rw [hfa]
          by_cases hx : ∃ e ∈ es, e.1 = k
          · obtain ⟨e, he, rfl⟩ := hx
            rw [hall e he]
            have hlt : e.1 < listed0.size := by
              have := List.all_eq_true.1 hes e he
              simp only [Bool.and_eq_true, decide_eq_true_eq] at this
              omega
            have : es.any (fun x => x.1 == e.1) = true := List.any_eq_true.2 ⟨e, he, by simp⟩
            rw [this]
            simp [hlt]
          · have hno : ∀ e ∈ es, e.1 ≠ k := fun e he h => hx ⟨e, he, h⟩
            rw [hk k hno]
            have : es.any (fun x => x.1 == k) = false := by
              rw [List.any_eq_false]
              intro e he
              simpa using hno e he
            rw [this]
            simp
        refine Array.ext (by rw [hfs, hls, hsz]) fun i h1 h2 => ?_
        have := hg i
        rw [Array.getD_eq_getD_getElem?, Array.getD_eq_getD_getElem?, Array.getElem?_eq_getElem h1, Array.getElem?_eq_getElem h2] at this
        exact this
      rw [laid_fill hla hall, he, Nat.zero_add]
      exact hend vs w hB fun e he => hF e he (hall e he)
    | succ m ih =>
      intro listed a w vs hm ht hls hk hla hB hF
      obtain ⟨e0, he0, h0⟩ := openN_pos hm
      have hlt0 : e0.1 < ops.size := by
        have := List.all_eq_true.1 hes e0 he0
        simp only [Bool.and_eq_true, decide_eq_true_eq] at this
        exact this.1
      rw [show m + 1 + r = (m + r) + 1 by omega]
      refine ⟨fun hr => absurd hr (ready_ne hls (fun i o ho => (hrow i o ho).1) e0.1 hlt0 h0), fun i hi => ?_⟩
      obtain ⟨hiun, o, ho, hdep⟩ := mem_ready.1 hi
      have hilt : i < ops.size := (Array.getElem?_eq_some_iff.1 ho).1
      have hiun' : listed.getD i false = false := by
        rw [Array.getD_eq_getD_getElem?, Array.getElem?_eq_getElem (by omega)] at hiun ⊢
        exact hiun
      have hwl : ∀ k, waitsFor md ops n i k = true → listed.getD k false = true := fun k hw => waits_listed ht n i k o ho hdep hw
      rcases (hrow i o ho).2 with h | ⟨hno, h⟩ | ⟨e, he, hei, hdst, hlook⟩
      · by_cases hx : ∃ e ∈ es, e.1 = i
        · obtain ⟨e, he, rfl⟩ := hx
          have := List.all_eq_true.1 hes e he
          simp only [Bool.and_eq_true, Bool.not_eq_true'] at this
          rw [this.2] at h
          cases h
        · rw [← hk i (fun e he h => hx ⟨e, he, h⟩), hiun'] at h
          cases h
      · have := hwl e0.1 (h e0 he0)
        rw [h0] at this
        cases this
      · subst hei
        have hF' : ∀ j ∈ es, waitsFor md ops n e.1 j.1 = true → F j.2 (vs j.2) w := fun j hj hw => hF j hj (hwl j.1 hw)
        have hfz : a.tmps.size = (fillL es vs a0).tmps.size := by
          have h1 : ∀ d, a.tmps[d]? = none ↔ (fillL es vs a0).tmps[d]? = none := fun d => by
            rw [hla.2 d, fillL_at]
            simp
          have h2 := h1 a.tmps.size
          have h3 := h1 (fillL es vs a0).tmps.size
          simp only [Array.getElem?_eq_none_iff] at h2 h3
          omega
        refine wpOpS_of_fill (b := fillL es vs a0) (G := fun v w' => F e.2 v w' ∧ T w w') ho (fun cs b => Region.noSelect_spec hns e.1 o cs b ho) hfz ?_ (hop' e he vs w hB hF' o ho) ?_
        · intro t ht'
          exact laid_looks hla fun j hj hjt => hwl j.1 (hlook t ht' j hj hjt)
        · intro v w' hv
          have hB' : R w' := hT w w' hB hv.2
          refine ⟨.inr (hS w' hB'), ?_⟩
          have hne : ∀ j ∈ es, j ≠ e → j.2 ≠ e.2 := fun j hj hje h => hje (hslot j hj e he h)
          refine ih (listed.setIfInBounds e.1 true) (a.put o.dst v) w' (fun d => if d = e.2 then v else vs d) ?_ (ht.add hi) (by simpa using hls) ?_ ?_ hB' ?_
          · have := openN_set listed e.1 (by omega) hiun' es hn1 (List.mem_map_of_mem he)
            omega
          · intro k hk'
            rw [getD_set_ne false (hk' e he)]
            exact hk k hk'
          · refine ⟨?_, fun d => ?_⟩
            · rw [hdst]
              exact hla.1
            · rw [hdst]
              simp only [Act.put]
              by_cases hd : d = e.2
              · subst hd
                have hany : es.any (fun x => x.2 == e.2 && (listed.setIfInBounds e.1 true).getD x.1 false) = true := List.any_eq_true.2 ⟨e, he, by
                  have hl : e.1 < listed.size := by omega
                  simp [hl]⟩
                rw [hany, Array.getElem?_setIfInBounds]
                have := hla.2 e.2
                by_cases hs : e.2 < a.tmps.size
                · rw [Array.getElem?_eq_getElem hs] at this
                  rcases hx : a0.tmps[e.2]? with _ | x
                  · rw [hx] at this
                    cases this
                  · simp [hs]
                · rw [Array.getElem?_eq_none (by omega)] at this
                  rcases hx : a0.tmps[e.2]? with _ | x
                  · simp [hs]
                  · rw [hx] at this
                    cases this
              · rw [Array.getElem?_setIfInBounds_ne (Ne.symm hd), hla.2 d]
                have hany : es.any (fun x => x.2 == d && (listed.setIfInBounds e.1 true).getD x.1 false) = es.any (fun x => x.2 == d && listed.getD x.1 false) := by
                  rw [Bool.eq_iff_iff, List.any_eq_true, List.any_eq_true]
                  have hx : ∀ x ∈ es, x.2 = d → e.1 ≠ x.1 := fun x hx hxd h => by
                    have := hnum e he x hx h
                    subst this
                    exact hd hxd.symm
                  constructor
                  · rintro ⟨x, hx1, hx2⟩
                    simp only [Bool.and_eq_true, beq_iff_eq] at hx2
                    rw [getD_set_ne false (hx x hx1 hx2.1)] at hx2
                    exact ⟨x, hx1, by simp only [Bool.and_eq_true, beq_iff_eq]; exact hx2⟩
                  · rintro ⟨x, hx1, hx2⟩
                    simp only [Bool.and_eq_true, beq_iff_eq] at hx2
                    refine ⟨x, hx1, ?_⟩
                    rw [getD_set_ne false (hx x hx1 hx2.1)]
                    simp only [Bool.and_eq_true, beq_iff_eq]
                    exact hx2
                rw [hany]
                simp only [if_neg hd]
          · intro j hj hjl
            by_cases hje : j = e
            · subst hje
              simp only [if_true]
              exact hv.1
            · simp only [if_neg (hne j hj hje)]
              rw [getD_set_ne false (fun h => hje (hnum j hj e he h.symm))] at hjl
              exact hst' j hj _ w w' (hF j hj hjl) hv.2
  have hop0 : ∀ e ∈ es, listed0.getD e.1 false = false := fun e he => by
    have := List.all_eq_true.1 hes e he
    simp only [Bool.and_eq_true, Bool.not_eq_true'] at this
    exact this.2
  refine main m listed0 a0 w0 (fun _ => undef) hm (inTurn_of hit) hsz (fun _ _ => rfl) ⟨rfl, fun d => ?_⟩ hR0 fun e he h => ?_
  · have : es.any (fun e => e.2 == d && listed0.getD e.1 false) = false := by
      rw [List.any_eq_false]
      intro e he
      rw [hop0 e he]
      simp
    rw [this]
    simp
  · rw [hop0 e he] at h
    cases h

end

end Go.Proofs.Ytnoidcelinaenaa

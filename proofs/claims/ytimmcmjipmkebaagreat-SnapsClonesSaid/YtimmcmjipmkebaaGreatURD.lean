/-
  How a slice of whatever elements is read: as a list of what its elements are read as. No conditions.
-/
import Derived.Test.YtimmcmjipmkebaaGreatUW
import Derived.Lib.SmallJoins
import Derived.ChangeArms
import Derived.DataElems
namespace Go.Proofs.YtimmcmjipmkebaaGreat
open Go.ChangeShapes Go.WideShapes Go.ChangeAt Go.RowKit
set_option maxRecDepth 100000
section
variable {H : Type} {enc : TypeId × Value → H} {P : Program} {W : World}
def Fit (P : Program) (e : TypeId) (d : DataW H) : Prop := ∀ m ∈ d.weights P e, m ≤ reachBytes
def Opens (enc : TypeId × Value → H) (P : Program) (W : World) (e : TypeId) {α : Type} (cells : α → List Value) (good : α → Prop) : Prop :=
  ∀ (fuel : Nat) (cs : List Value) (x : DataW H × List MemPlace), DataW.trod enc P W 0 (fun _ => true) true fuel e cs = some x → Fit P e x.1 → ∃ a : α, cs = cells a ∧ good a
theorem flat_at_of {α : Type} {cells : α → List Value} {n : Nat} (hn : ∀ a, (cells a).length = n) : ∀ (l : List α) (i j : Nat) (a : α), l[i]? = some a → j < n → (l.flatMap cells)[i * n + j]? = (cells a)[j]?
  | x :: xs, 0, j, a, h, hj => by
    simp at h
    subst h
    rw [List.flatMap_cons, List.getElem?_append_left (by rw [hn]; omega), Nat.zero_mul, Nat.zero_add]
  | x :: xs, i + 1, j, a, h, hj => by
    rw [List.flatMap_cons, List.getElem?_append_right (by rw [hn, Nat.add_mul]; omega), hn, show (i + 1) * n + j - n = i * n + j by rw [Nat.add_mul]; omega]
    exact flat_at_of hn xs i j a (by simpa using h) hj
theorem flat_len {α : Type} {cells : α → List Value} {n : Nat} (hn : ∀ a, (cells a).length = n) (l : List α) : (l.flatMap cells).length = l.length * n := by
  induction l with
  | nil => simp
  | cons x xs ih => rw [List.flatMap_cons, List.length_append, hn, ih, List.length_cons, Nat.add_mul]; omega
theorem weights_mem_all {e : TypeId} : ∀ {l : List (DataW H)} {d : DataW H}, d ∈ l → ∀ m ∈ d.weights P e, m ∈ DataW.weightsAll P e l
  | x :: xs, d, h, m, hm => by
    simp only [DataW.weightsAll, List.mem_append]
    rcases List.mem_cons.1 h with rfl | h
    · exact .inl hm
    · exact .inr (weights_mem_all h m hm)
theorem opens_slice {t e : TypeId} {α : Type} {cells : α → List Value} {good : α → Prop} {n : Nat} (ht : P.underlying t = some (.slice e)) (hc : P.cellsOf e = n) (hpos : 0 < n) (hn : ∀ a, (cells a).length = n) (he : Opens enc P W e cells good)
    {fuel : Nat} {cs : List Value} {x : DataW H × List MemPlace} (h : DataW.trod enc P W 0 (fun _ => true) true fuel t cs = some x) (hf : Fit P t x.1) :
    ∃ (A : Option Addr) (l : List α) (c : Nat), cs = [.slice A l.length c] ∧ l.length ≤ c ∧ (A = none → c = 0) ∧ Rd W A (l.flatMap cells) ∧ (∀ a ∈ l, good a) ∧ l.length * P.bytesOf e ≤ reachBytes := by
  rcases DataW.trod_slice ht h with ⟨rfl, rfl⟩ | ⟨a, len, cap, elems, rest, m, _, rfl, rfl, _, hl, _, hlen, hel, _, _⟩
  · exact ⟨none, [], 0, rfl, Nat.le_refl _, fun _ => rfl, Rd.nil _ _, fun a ha => by simp at ha, by simp⟩
  · have key : ∀ i, i < len → ∃ a' : α, W.cells? 0 (a.add (i * n)) n = some (cells a') ∧ good a' := fun i hi => by
      have h1 := hel i hi
      rw [hc] at h1
      have h2 : elems[i]? = some elems[i] := qZa (by omega)
      rw [h2, Option.bind_eq_some_iff] at h1
      obtain ⟨cs', h3, h4⟩ := h1
      obtain ⟨a', rfl, hg⟩ := he m cs' elems[i] h4 (fun k hk => hf k (by
        simp only [DataW.weights, ht]
        refine List.mem_cons_of_mem _ (List.mem_append_left _ (weights_mem_all (d := elems[i].1) ?_ k hk))
        exact List.mem_map.2 ⟨_, List.getElem_mem (by omega), rfl⟩))
      exact ⟨a', h3, hg⟩
    have mk : ∀ k, k ≤ len → ∃ l : List α, l.length = k ∧ (∀ a' ∈ l, good a') ∧ ∀ i a', l[i]? = some a' → W.cells? 0 (a.add (i * n)) n = some (cells a') := by
      intro k
      induction k with
      | zero => exact fun _ => ⟨[], rfl, fun a' h => by simp at h, fun i a' h => by simp at h⟩
      | succ k ih =>
        intro hk
        obtain ⟨l, h1, h2, h3⟩ := ih (by omega)
        obtain ⟨a', h4, h5⟩ := key k (by omega)
        refine ⟨l ++ [a'], by simp [h1], fun b hb => ?_, fun i b hb => ?_⟩
        · simp at hb
          rcases hb with hb | rfl
          · exact h2 b hb
          · exact h5
        · rcases Nat.lt_or_ge i l.length with hi | hi
          · rw [List.getElem?_append_left hi] at hb
            exact h3 i b hb
          · rw [List.getElem?_append_right hi] at hb
            have : i = k := by
              have := (List.getElem?_eq_some_iff.1 hb).1
              simp at this
              omega
            subst this
            rw [h1, Nat.sub_self] at hb
            simp at hb
            subst hb
            exact h4
    obtain ⟨l, h1, h2, h3⟩ := mk len (Nat.le_refl _)
    refine ⟨some a, l, cap, by rw [h1], by omega, fun h => (by cases h), ?_, h2, ?_⟩
    · intro hv
      have hl0 : 0 < l.length := by
        rcases l with _ | ⟨y, ys⟩
        · exact absurd rfl hv
        · simp
      obtain ⟨b, off, sp⟩ := a
      have hc0 : ∀ i a', l[i]? = some a' → ∀ j, j < n → W.cell? ((Addr.mk b off sp).add (i * n + j)) = (cells a')[j]? := fun i a' hi j hj => by
        have := (World.cells?_some (h3 i a' hi)).2.2 j hj
        rw [← this, Addr.add_add]
      have h00 := hc0 0 l[0] (qZa hl0) 0 hpos
      rw [qZa (by rw [hn]; exact hpos)] at h00
      rw [Nat.zero_mul, Nat.zero_add, show (Addr.mk b off sp).add 0 = ⟨b, off, sp⟩ from by simp [Addr.add]] at h00
      have hsp : sp = none := World.cell?_spot h00
      subst hsp
      refine ⟨b, off, rfl, World.block_lt_of_cell? W ⟨b, off, none⟩ h00, fun j u hu => ?_⟩
      have hj : j < l.length * n := by
        have := (List.getElem?_eq_some_iff.1 hu).1
        rwa [flat_len hn] at this
      have hq : j / n < l.length := Nat.div_lt_of_lt_mul (by rw [Nat.mul_comm]; exact hj)
      have hm := Nat.mod_lt j hpos
      have hjd : j / n * n + j % n = j := by rw [Nat.mul_comm]; exact Nat.div_add_mod j n
      have e1 := flat_at_of hn l (j / n) (j % n) _ (qZa hq) hm
      rw [hjd] at e1
      have e2 := hc0 (j / n) _ (qZa hq) (j % n) hm
      rw [hjd, ← e1, hu, add_plain] at e2
      exact e2
    · have hw := hf ((elems.length + rest.length) * P.bytesOf e) (by simp [DataW.weights, ht])
      refine Nat.le_trans (Nat.mul_le_mul_right _ ?_) hw
      omega
theorem fit_part {t : TypeId} {fs : Array Field} (ht : P.underlying t = some (.struct fs)) {parts : List (DataW H)} (h : Fit P t (.agg parts)) {i : Nat} {f : Field} {d : DataW H} (hf : fs[i]? = some f) (hd : parts[i]? = some d) : Fit P f.type d := fun m hm => h m (by
  simp only [DataW.weights, ht]
  exact DataW.weights_mem_each (j := i) (by rw [List.getElem?_map, Array.getElem?_toList, hf]; rfl) hd m hm)
theorem fit_arg {ts : List TypeId} {ds : List (DataW H)} (h : (DataW.weightsEach P ts ds).all (· ≤ reachBytes) = true) {j : Nat} {t : TypeId} {d : DataW H} (ht : ts[j]? = some t) (hd : ds[j]? = some d) : Fit P t d := fun m hm => by
  have := List.all_eq_true.1 h m (DataW.weights_mem_each ht hd m hm)
  simpa using this
end
end Go.Proofs.YtimmcmjipmkebaaGreat

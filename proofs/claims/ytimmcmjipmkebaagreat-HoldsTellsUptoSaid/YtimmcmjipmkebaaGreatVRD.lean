/-
 How a slice of whatever elements is read: as a list of what its elements are read as. No conditions.
-/
import Derived.Test.YtimmcmjipmkebaaGreatVW
import Derived.Lib.SmallJoins
import Derived.ChangeArms
import Derived.DataElems
import Derived.JoinedCond
namespace Go.Proofs.YtimmcmjipmkebaaGreat
open Go.ChangeShapes Go.WideShapes Go.ChangeAt Go.RowKit
set_option maxRecDepth 100000
section
variable {H : Type} {enc : TypeId × Value → H} {P : Program} {W : World}
def Fit (P : Program) (e : TypeId) (d : DataW H) : Prop := ∀ m ∈ d.weights P e, m ≤ reachBytes
def Opens (enc : TypeId × Value → H) (P : Program) (W : World) (e : TypeId) {α : Type} (cells : α → List Value) (good : α → Prop) : Prop :=
 ∀ (fuel : Nat) (cs : List Value) (x : DataW H × List MemPlace), DataW.trod enc P W 0 (fun _ => true) true fuel e cs = some x → Fit P e x.1 → ∃ a : α, cs = cells a ∧ good a
theorem flat_at_of {α : Type} {cells : α → List Value} {n : Nat} (hn : ∀ a, (cells a).length = n) : ∀ (l : List α) (i j : Nat) (a : α), l[i]? = some a → j < n → (l.flatMap cells)[i * n + j]? = (cells a)[j]?
 | x :: xs, 0, j, a, h, hj => by
  simp at h
  subst h
  rw [List.flatMap_cons, List.getElem?_append_left (by rw [hn]; omega), Nat.zero_mul, Nat.zero_add]
 | x :: xs, i + 1, j, a, h, hj => by
  rw [List.flatMap_cons, List.getElem?_append_right (by rw [hn, Nat.add_mul]; omega), hn, show (i + 1) * n + j - n = i * n + j by rw [Nat.add_mul]; omega]
  exact flat_at_of hn xs i j a (by simpa using h) hj
theorem flat_len {α : Type} {cells : α → List Value} {n : Nat} (hn : ∀ a, (cells a).length = n) (l : List α) : (l.flatMap cells).length = l.length * n := by
 induction l with
 | nil => simp
 | cons x xs ih => rw [List.flatMap_cons, List.length_append, hn, ih, List.length_cons, Nat.add_mul]; omega
theorem weights_mem_all {e : TypeId} : ∀ {l : List (DataW H)} {d : DataW H}, d ∈ l → ∀ m ∈ d.weights P e, m ∈ DataW.weightsAll P e l
 | x :: xs, d, h, m, hm => by
  simp only [DataW.weightsAll, List.mem_append]
  rcases List.mem_cons.1 h with rfl | h
  · exact .inl hm
  · exact .inr (weights_mem_all h m hm)
theorem opens_slice {t e : TypeId} {α : Type} {cells : α → List Value} {good : α → Prop} {n : Nat} (ht : P.underlying t = some (.slice e)) (hc : P.cellsOf e = n) (hpos : 0 < n) (hn : ∀ a, (cells a).length = n) (he : Opens enc P W e cells good)
 {fuel : Nat} {cs : List Value} {x : DataW H × List MemPlace} (h : DataW.trod enc P W 0 (fun _ => true) true fuel t cs = some x) (hf : Fit P t x.1) :
 ∃ (A : Option Addr) (l : List α) (c : Nat), cs = [.slice A l.length c] ∧ l.length ≤ c ∧ (A = none → c = 0) ∧ Rd W A (l.flatMap cells) ∧ (∀ a ∈ l, good a) ∧ l.length * P.bytesOf e ≤ reachBytes := by
 rcases DataW.trod_slice ht h with ⟨rfl, rfl⟩ | ⟨a, len, cap, elems, rest, m, _, rfl, rfl, _, hl, _, hlen, hel, _, _⟩
 · exact ⟨none, [], 0, rfl, Nat.le_refl _, fun _ => rfl, Rd.nil _ _, fun a ha => by simp at ha, by simp⟩
 · have key : ∀ i, i < len → ∃ a' : α, W.cells? 0 (a.add (i * n)) n = some (cells a') ∧ good a' := fun i hi => by
    have h1 := hel i hi
    rw [hc] at h1
    have h2 : elems[i]? = some elems[i] := qZa (by omega)
    rw [h2, Option.bind_eq_some_iff] at h1
    obtain ⟨cs', h3, h4⟩ := h1
    obtain ⟨a', rfl, hg⟩ := he m cs' elems[i] h4 (fun k hk => hf k (by
     simp only [DataW.weights, ht]
     refine List.mem_cons_of_mem _ (List.mem_append_left _ (weights_mem_all (d := elems[i].1) ?_ k hk))
     exact List.mem_map.2 ⟨_, List.getElem_mem (by omega), rfl⟩))
    exact ⟨a', h3, hg⟩
   have mk : ∀ k, k ≤ len → ∃ l : List α, l.length = k ∧ (∀ a' ∈ l, good a') ∧ ∀ i a', l[i]? = some a' → W.cells? 0 (a.add (i * n)) n = some (cells a') := by
    intro k
    induction k with
    | zero => exact fun _ => ⟨[], rfl, fun a' h => by simp at h, fun i a' h => by simp at h⟩
    | succ k ih =>
     intro hk
     obtain ⟨l, h1, h2, h3⟩ := ih (by omega)
     obtain ⟨a', h4, h5⟩ := key k (by omega)
     refine ⟨l ++ [a'], by simp [h1], fun b hb => ?_, fun i b hb => ?_⟩
     · simp at hb
       rcases hb with hb | rfl
       · exact h2 b hb
       · exact h5
     · rcases Nat.lt_or_ge i l.length with hi | hi
       · rw [List.getElem?_append_left hi] at hb
         exact h3 i b hb
       · rw [List.getElem?_append_right hi] at hb
         have : i = k := by
          have := (List.getElem?_eq_some_iff.1 hb).1
          simp at this
          omega
         subst this
         rw [h1, Nat.sub_self] at hb
         simp at hb
         subst hb
         exact h4
   obtain ⟨l, h1, h2, h3⟩ := mk len (Nat.le_refl _)
   refine ⟨some a, l, cap, by rw [h1], by omega, fun h => (by cases h), ?_, h2, ?_⟩
   · intro hv
     have hl0 : 0 < l.length := by
      rcases l with _ | ⟨y, ys⟩
      · exact absurd rfl hv
      · simp
     obtain ⟨b, off, sp⟩ := a
     have hc0 : ∀ i a', l[i]? = some a' → ∀ j, j < n → W.cell? ((Addr.mk b off sp).add (i * n + j)) = (cells a')[j]? := fun i a' hi j hj => by
      have := (World.cells?_some (h3 i a' hi)).2.2 j hj
      rw [← this, Addr.add_add]
     have h00 := hc0 0 l[0] (qZa hl0) 0 hpos
     rw [qZa (by rw [hn]; exact hpos)] at h00
     rw [Nat.zero_mul, Nat.zero_add, show (Addr.mk b off sp).add 0 = ⟨b, off, sp⟩ from by simp [Addr.add]] at h00
     have hsp : sp = none := World.cell?_spot h00
     subst hsp
     refine ⟨b, off, rfl, World.block_lt_of_cell? W ⟨b, off, none⟩ h00, fun j u hu => ?_⟩
     have hj : j < l.length * n := by
      have := (List.getElem?_eq_some_iff.1 hu).1
      rwa [flat_len hn] at this
     have hq : j / n < l.length := Nat.div_lt_of_lt_mul (by rw [Nat.mul_comm]; exact hj)
     have hm := Nat.mod_lt j hpos
     have hjd : j / n * n + j % n = j := by rw [Nat.mul_comm]; exact Nat.div_add_mod j n
     have e1 := flat_at_of hn l (j / n) (j % n) _ (qZa hq) hm
     rw [hjd] at e1
     have e2 := hc0 (j / n) _ (qZa hq) (j % n) hm
     rw [hjd, ← e1, hu, add_plain] at e2
     exact e2
   · have hw := hf ((elems.length + rest.length) * P.bytesOf e) (by simp [DataW.weights, ht])
     refine Nat.le_trans (Nat.mul_le_mul_right _ ?_) hw
     omega
theorem zgZ {t : TypeId} {fs : Array Field} (ht : P.underlying t = some (.struct fs)) {parts : List (DataW H)} (h : Fit P t (.agg parts)) {i : Nat} {f : Field} {d : DataW H} (hf : fs[i]? = some f) (hd : parts[i]? = some d) : Fit P f.type d := fun m hm => h m (by
 simp only [DataW.weights, ht]
 exact DataW.weights_mem_each (j := i) (by rw [List.getElem?_map, Array.getElem?_toList, hf]; rfl) hd m hm)
end
section
variable {H : Type} {P : Program}
def closedB (P : Program) (L : List TypeId) (B : Nat) : Bool := L.all fun t => match P.underlying t with
 | some (.slice e) => L.contains e && decide (P.bytesOf e ≤ B)
 | some (.struct fs) => fs.toList.all fun f => L.contains f.type
 | some (.pointer _) => false
 | some (.array _ _) => false
 | some (.map _ _) => false
 | _ => true
theorem closed_slice {L : List TypeId} {B : Nat} (h : closedB P L B = true) {t e : TypeId} (ht : t ∈ L) (hu : P.underlying t = some (.slice e)) : e ∈ L ∧ P.bytesOf e ≤ B := by
 have := List.all_eq_true.1 h t ht
 rw [hu] at this
 simpa using this
theorem closed_struct {L : List TypeId} {B : Nat} (h : closedB P L B = true) {t : TypeId} {fs : Array Field} (ht : t ∈ L) (hu : P.underlying t = some (.struct fs)) : ∀ u ∈ fs.toList.map (·.type), u ∈ L := by
 have := List.all_eq_true.1 h t ht
 rw [hu] at this
 simp only [List.all_eq_true] at this
 intro u hm
 obtain ⟨f, hf, rfl⟩ := List.mem_map.1 hm
 simpa using this f hf
theorem bulk_len : ∀ l : List (DataW H), l.length ≤ Rows.uptoBulkAll l
 | [] => by simp
 | d :: l => by
  have h1 := bulk_len l
  have h2 : 1 ≤ Rows.uptoBulk d := by
   cases d with
   | lit x => cases x <;> simp [Rows.uptoBulk]
   | _ => simp [Rows.uptoBulk]
  simp only [Rows.uptoBulkAll, List.length_cons]
  omega
theorem bulk_weights {L : List TypeId} {B : Nat} (h : closedB P L B = true) : ∀ n, (∀ (d : DataW H) (t : TypeId), t ∈ L → Rows.uptoBulk d ≤ n → ∀ m ∈ d.weights P t, m ≤ (B + 1) * n) := by
 intro n
 induction n with
 | zero =>
  intro d t _ hd
  have := bulk_len [d]
  simp only [Rows.uptoBulkAll, List.length_cons, List.length_nil] at this
  omega
 | succ n ih =>
  have all : ∀ (l : List (DataW H)) (e : TypeId), e ∈ L → Rows.uptoBulkAll l ≤ n → ∀ m ∈ DataW.weightsAll P e l, m ≤ (B + 1) * n := by
   intro l
   induction l with
   | nil => intro e _ _ m hm; simp [DataW.weightsAll] at hm
   | cons d l ihl =>
    intro e he hl m hm
    simp only [Rows.uptoBulkAll] at hl
    simp only [DataW.weightsAll, List.mem_append] at hm
    rcases hm with hm | hm
    · exact ih d e he (by omega) m hm
    · exact ihl e he (by omega) m hm
  have each : ∀ (l : List (DataW H)) (ts : List TypeId), (∀ u ∈ ts, u ∈ L) → Rows.uptoBulkAll l ≤ n → ∀ m ∈ DataW.weightsEach P ts l, m ≤ (B + 1) * n := by
   intro l
   induction l with
   | nil => intro ts _ _ m hm; cases ts <;> simp [DataW.weightsEach] at hm
   | cons d l ihl =>
    intro ts hts hl m hm
    simp only [Rows.uptoBulkAll] at hl
    rcases ts with _ | ⟨t, ts⟩
    · simp [DataW.weightsEach] at hm
    · simp only [DataW.weightsEach, List.mem_append] at hm
      rcases hm with hm | hm
      · exact ih d t (hts t (by simp)) (by omega) m hm
      · exact ihl ts (fun u hu => hts u (by simp [hu])) (by omega) m hm
  have up : ∀ m, m ≤ (B + 1) * n → m ≤ (B + 1) * (n + 1) := fun m hm => by rw [Nat.mul_succ]; omega
  intro d t ht hd m hm
  cases d with
  | lit x =>
   cases x with
   | string bs =>
    simp only [DataW.weights, List.mem_singleton] at hm
    simp only [Rows.uptoBulk] at hd
    subst hm
    have : (n + 1) ≤ (B + 1) * (n + 1) := Nat.le_mul_of_pos_left _ (by omega)
    omega
   | _ => simp [DataW.weights] at hm
  | nil => simp [DataW.weights] at hm
  | held x => simp [DataW.weights] at hm
  | iface s x => simp [DataW.weights] at hm
  | ptr x =>
   exfalso
   simp only [DataW.weights] at hm
   split at hm
   · rename_i e hu
     have := List.all_eq_true.1 h t ht
     rw [hu] at this
     cases this
   · simp at hm
  | map es =>
   exfalso
   simp only [DataW.weights] at hm
   split at hm
   · rename_i k e hu
     have := List.all_eq_true.1 h t ht
     rw [hu] at this
     cases this
   · simp at hm
  | slice es sp =>
   simp only [Rows.uptoBulk] at hd
   simp only [DataW.weights] at hm
   split at hm
   · rename_i e hu
     obtain ⟨he, hb⟩ := closed_slice h ht hu
     rcases List.mem_cons.1 hm with rfl | hm
     · have h1 := bulk_len es
       have h2 := bulk_len sp
       have h3 : (es.length + sp.length) * P.bytesOf e ≤ n * B := Nat.mul_le_mul (by omega) hb
       refine up _ (Nat.le_trans h3 ?_)
       rw [Nat.add_mul, Nat.mul_comm B n]
       omega
     · rcases List.mem_append.1 hm with hm | hm
       · exact up m (all es e he (by omega) m hm)
       · exact up m (all sp e he (by omega) m hm)
   · simp at hm
  | agg ps =>
   simp only [Rows.uptoBulk] at hd
   simp only [DataW.weights] at hm
   split at hm
   · rename_i fs hu
     exact up m (each ps _ (closed_struct h ht hu) (by omega) m hm)
   · rename_i k e hu
     exfalso
     have := List.all_eq_true.1 h t ht
     rw [hu] at this
     cases this
   · simp at hm
end
end Go.Proofs.YtimmcmjipmkebaaGreat

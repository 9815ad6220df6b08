/-
  What is read of little bulk has no great array. Conditions: the types are of a closed list.
-/
import Derived.Test.YtkokfmodoacflaaRD
import Derived.JoinedCond
namespace Go.Proofs.Ytkokfmodoacflaa
open Go.ChangeShapes Go.WideShapes Go.ChangeAt Go.RowKit
set_option maxRecDepth 100000

section
variable {H : Type} {P : Program}
/-- Types whose parts are of the list, too, and whose elements are small. -/
def closedB (P : Program) (L : List TypeId) (B : Nat) : Bool := L.all fun t => match P.underlying t with
  | some (.slice e) => L.contains e && decide (P.bytesOf e ≤ B)
  | some (.struct fs) => fs.toList.all fun f => L.contains f.type
  | some (.pointer _) => false
  | some (.array _ _) => false
  | some (.map _ _) => false
  | _ => true
theorem closed_slice {L : List TypeId} {B : Nat} (h : closedB P L B = true) {t e : TypeId} (ht : t ∈ L) (hu : P.underlying t = some (.slice e)) : e ∈ L ∧ P.bytesOf e ≤ B := by
  have := List.all_eq_true.1 h t ht
  rw [hu] at this
  simpa using this
theorem closed_struct {L : List TypeId} {B : Nat} (h : closedB P L B = true) {t : TypeId} {fs : Array Field} (ht : t ∈ L) (hu : P.underlying t = some (.struct fs)) : ∀ u ∈ fs.toList.map (·.type), u ∈ L := by
  have := List.all_eq_true.1 h t ht
  rw [hu] at this
  simp only [List.all_eq_true] at this
  intro u hm
  obtain ⟨f, hf, rfl⟩ := List.mem_map.1 hm
  simpa using this f hf
theorem bulk_len : ∀ l : List (DataW H), l.length ≤ Rows.uptoBulkAll l
  | [] => by simp
  | d :: l => by
    have h1 := bulk_len l
    have h2 : 1 ≤ Rows.uptoBulk d := by
      cases d with
      | lit x => cases x <;> simp [Rows.uptoBulk]
      | _ => simp [Rows.uptoBulk]
    simp only [Rows.uptoBulkAll, List.length_cons]
    omega

theorem bulk_weights {L : List TypeId} {B : Nat} (h : closedB P L B = true) : ∀ n, (∀ (d : DataW H) (t : TypeId), t ∈ L → Rows.uptoBulk d ≤ n → ∀ m ∈ d.weights P t, m ≤ (B + 1) * n) := by
  intro n
  induction n with
  | zero =>
    intro d t _ hd
    have := bulk_len [d]
    simp only [Rows.uptoBulkAll, List.length_cons, List.length_nil] at this
    omega
  | succ n ih =>
    have all : ∀ (l : List (DataW H)) (e : TypeId), e ∈ L → Rows.uptoBulkAll l ≤ n → ∀ m ∈ DataW.weightsAll P e l, m ≤ (B + 1) * n := by
      intro l
      induction l with
      | nil => intro e _ _ m hm; simp [DataW.weightsAll] at hm
      | cons d l ihl =>
        intro e he hl m hm
        simp only [Rows.uptoBulkAll] at hl
        simp only [DataW.weightsAll, List.mem_append] at hm
        rcases hm with hm | hm
        · exact ih d e he (by omega) m hm
        · exact ihl e he (by omega) m hm
    have each : ∀ (l : List (DataW H)) (ts : List TypeId), (∀ u ∈ ts, u ∈ L) → Rows.uptoBulkAll l ≤ n → ∀ m ∈ DataW.weightsEach P ts l, m ≤ (B + 1) * n := by
      intro l
      induction l with
      | nil => intro ts _ _ m hm; cases ts <;> simp [DataW.weightsEach] at hm
      | cons d l ihl =>
        intro ts hts hl m hm
        simp only [Rows.uptoBulkAll] at hl
        rcases ts with _ | ⟨t, ts⟩
        · simp [DataW.weightsEach] at hm
        · simp only [DataW.weightsEach, List.mem_append] at hm
          rcases hm with hm | hm
          · exact ih d t (hts t (by simp)) (by omega) m hm
          · exact ihl ts (fun u hu => hts u (by simp [hu])) (by omega) m hm
    have up : ∀ m, m ≤ (B + 1) * n → m ≤ (B + 1) * (n + 1) := fun m hm => by rw [Nat.mul_succ]; omega
    intro d t ht hd m hm
    cases d with
    | lit x =>
      cases x with
      | string bs =>
        simp only [DataW.weights, List.mem_singleton] at hm
        simp only [Rows.uptoBulk] at hd
        subst hm
        have : (n + 1) ≤ (B + 1) * (n + 1) := Nat.le_mul_of_pos_left _ (by omega)
        omega
      | _ => simp [DataW.weights] at hm
    | nil => simp [DataW.weights] at hm
    | held x => simp [DataW.weights] at hm
    | iface s x => simp [DataW.weights] at hm
    | ptr x =>
      exfalso
      simp only [DataW.weights] at hm
      split at hm
      · rename_i e hu
        have := List.all_eq_true.1 h t ht
        rw [hu] at this
        cases this
      · simp at hm
    | map es =>
      exfalso
      simp only [DataW.weights] at hm
      split at hm
      · rename_i k e hu
        have := List.all_eq_true.1 h t ht
        rw [hu] at this
        cases this
      · simp at hm
    | slice es sp =>
      simp only [Rows.uptoBulk] at hd
      simp only [DataW.weights] at hm
      split at hm
      · rename_i e hu
        obtain ⟨he, hb⟩ := closed_slice h ht hu
        rcases List.mem_cons.1 hm with rfl | hm
        · have h1 := bulk_len es
          have h2 := bulk_len sp
          have h3 : (es.length + sp.length) * P.bytesOf e ≤ n * B := Nat.mul_le_mul (by omega) hb
          refine up _ (Nat.le_trans h3 ?_)
          rw [Nat.add_mul, Nat.mul_comm B n]
          omega
        · rcases List.mem_append.1 hm with hm | hm
          · exact up m (all es e he (by omega) m hm)
          · exact up m (all sp e he (by omega) m hm)
      · simp at hm
    | agg ps =>
      simp only [Rows.uptoBulk] at hd
      simp only [DataW.weights] at hm
      split at hm
      · rename_i fs hu
        exact up m (each ps _ (closed_struct h ht hu) (by omega) m hm)
      · rename_i k e hu
        exfalso
        have := List.all_eq_true.1 h t ht
        rw [hu] at this
        cases this
      · simp at hm

theorem fit_bulk {L : List TypeId} {B : Nat} (h : closedB P L B = true) (hB : (B + 1) * 1048576 ≤ reachBytes) {l : List (DataW H)} (hk : Rows.uptoSmall H l = true) {d : DataW H} (hd : d ∈ l) {t : TypeId} (ht : t ∈ L) : Fit P t d := fun m hm => by
  have h1 : Rows.uptoBulkAll l ≤ 1048576 := of_decide_eq_true hk
  have h2 : ∀ {l : List (DataW H)} {d : DataW H}, d ∈ l → Rows.uptoBulk d ≤ Rows.uptoBulkAll l := by
    intro l
    induction l with
    | nil => intro d hd; cases hd
    | cons x l ih =>
      intro d hd
      simp only [Rows.uptoBulkAll]
      rcases List.mem_cons.1 hd with rfl | hd
      · omega
      · have := ih hd
        omega
  exact Nat.le_trans (bulk_weights h 1048576 d t ht (Nat.le_trans (h2 hd) h1) m hm) hB
end
end Go.Proofs.Ytkokfmodoacflaa

/-
  Grants in memory: how lists of them lie. No conditions.
-/
import Derived.Test.YtnoidcelinaenaaSL
import Derived.Test.YtnoidcelinaenaaGRM
import Derived.Test.YtnoidcelinaenaaRF
import Derived.Laws.Cover1
import Derived.Laws.StructEq
import Derived.Deep.QuietTactic
import Derived.BigQuiet
import Derived.Deep.DeepCutAuto
namespace Go.Proofs.Ytnoidcelinaenaa
open Go.ChangeShapes Go.WideShapes Go.ChangeAt Go.RowKit
set_option maxRecDepth 100000

abbrev grC (x : Gr) : List Value := [.string x.1, .string x.2.1, .int .i64 x.2.2]
abbrev grV (x : Gr) : Value := .agg #[.string x.1, .string x.2.1, .int .i64 x.2.2]
def grs (l : List Gr) : List Value := l.flatMap grC
theorem grs_length (l : List Gr) : (grs l).length = 3 * l.length := by
  rw [grs, flat_len (n := 3) (fun _ => rfl)]; omega
theorem grs_append (l m : List Gr) : grs (l ++ m) = grs l ++ grs m := by simp [grs]
theorem grs_one (l : List Gr) : ∀ u ∈ grs l, u.oneCell' = true := fun u hu => by
  obtain ⟨x, _, hx⟩ := List.mem_flatMap.1 hu
  simp only [grC, List.mem_cons, List.not_mem_nil, or_false] at hx
  rcases hx with rfl | rfl | rfl <;> rfl
theorem Rd.gr {w : World} {A : Option Addr} {l : List Gr} (h : Rd w A (grs l)) {k : Nat} {x : Gr} (hk : l[k]? = some x) :
    ∃ b off, A = some ⟨b, off, none⟩ ∧ b < w.heap.size ∧ w.cell? ⟨b, off + k * 3, none⟩ = some (.string x.1) ∧ w.cell? ⟨b, off + k * 3 + 1, none⟩ = some (.string x.2.1) ∧ w.cell? ⟨b, off + k * 3 + 2, none⟩ = some (.int .i64 x.2.2) := by
  have h1 : (grs l)[k * 3 + 0]? = _ := flat_at_of (cells := grC) (n := 3) (fun _ => rfl) l k 0 x hk (by omega)
  have h2 : (grs l)[k * 3 + 1]? = _ := flat_at_of (cells := grC) (n := 3) (fun _ => rfl) l k 1 x hk (by omega)
  have h3 : (grs l)[k * 3 + 2]? = _ := flat_at_of (cells := grC) (n := 3) (fun _ => rfl) l k 2 x hk (by omega)
  obtain ⟨b, off, e, hb, hc⟩ := h (by intro h0; rw [h0] at h1; simp at h1)
  exact ⟨b, off, e, hb, hc _ _ h1, hc _ _ h2, hc _ _ h3⟩
/-- An own list of grants. -/
abbrev ownGr (w : World) (base : Nat) (v : Value) (l : List Gr) : Prop := w.ownsRow base 125 3 v l.length (grs l)
abbrev ansG (v : Value) (e : Int) : Value := .tuple #[v, .int .i64 e]
set_option maxRecDepth 100000 in
theorem infoGr : (Try.prog.info? 125).map (fun i => (i.zero, i.size, i.bytes)) = some (some (.agg #[.string ByteArray.empty, .string ByteArray.empty, .int .i64 0]), 3, 40) := by kernel_rfl


end Go.Proofs.Ytnoidcelinaenaa

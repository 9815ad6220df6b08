/-
  Words for slices that read as lists, and what keeps them. No conditions.
-/
import Derived.Test.YtdipdblgcdpmcaaRows
import Derived.WalkKit
import Derived.ProofKit
import Derived.OpenShut
import Derived.Below
import Derived.OwnWalk
import Derived.Laws.OwnMore
import Derived.Laws.BytesArg
import Derived.Deep.AppendLies
import Derived.Deep.Draws
import Derived.Deep.RegionLaw
namespace Go.Proofs.Ytdipdblgcdpmcaa
open Go.ChangeShapes Go.WideShapes Go.ChangeAt Go.RowKit

/-- The slice whose array begins at A reads as the cells vs. -/
def Rd (w : World) (A : Option Addr) (vs : List Value) : Prop :=
  vs ≠ [] → ∃ b off, A = some ⟨b, off, none⟩ ∧ b < w.heap.size ∧ ∀ j u, vs[j]? = some u → w.cell? ⟨b, off + j, none⟩ = some u

/-- The same, of octets. -/
def RdB (w : World) (A : Option Addr) (zs : List Int) : Prop := Rd w A (zs.map (Value.int .u8))

/-- All are octets. -/
def Octs (zs : List Int) : Prop := ∀ z ∈ zs, 0 ≤ z ∧ z ≤ 255

theorem Octs.at_ {zs : List Int} (h : Octs zs) (k : Nat) : 0 ≤ zs[k]?.getD 0 ∧ zs[k]?.getD 0 ≤ 255 := by
  rcases hk : zs[k]? with _ | z
  · simp
  · exact h z (List.mem_of_getElem? hk)

theorem Rd.nil (w : World) (A : Option Addr) : Rd w A [] := fun h => absurd rfl h
theorem RdB.nil (w : World) (A : Option Addr) : RdB w A [] := fun h => absurd rfl h

theorem Rd.keep {w w' : World} {A : Option Addr} {vs : List Value} (h : Rd w A vs) (hs : w.heap.size ≤ w'.heap.size)
    (hk : ∀ b o, b < w.heap.size → w'.cell? ⟨b, o, none⟩ = w.cell? ⟨b, o, none⟩) : Rd w' A vs := fun hv => by
  obtain ⟨b, off, e, hb, hc⟩ := h hv
  exact ⟨b, off, e, by omega, fun j u hu => (hk b _ hb).trans (hc j u hu)⟩

theorem Rd.below {w w' : World} {A : Option Addr} {vs : List Value} (h : Rd w A vs) (hb : Below w.heap.size w w') : Rd w' A vs :=
  h.keep hb.size fun b o hlt => hb.cell (p := ⟨b, o, none⟩) hlt

theorem RdB.below {w w' : World} {A : Option Addr} {zs : List Int} (h : RdB w A zs) (hb : Below w.heap.size w w') : RdB w' A zs := Rd.below h hb

theorem RdB.cell {w : World} {A : Option Addr} {zs : List Int} (h : RdB w A zs) {k : Nat} (hk : k < zs.length) :
    ∃ b off, A = some ⟨b, off, none⟩ ∧ b < w.heap.size ∧ w.cell? ⟨b, off + k, none⟩ = some (.int .u8 (zs[k]?.getD 0)) := by
  obtain ⟨b, off, e, hb, hc⟩ := h (by intro h0; have := congrArg List.length h0; simp at this; subst this; simp at hk)
  exact ⟨b, off, e, hb, hc k _ (by simp [List.getElem?_map, List.getElem?_eq_getElem hk])⟩

/-- A row of the call's own reads so. -/
theorem Rd.of_own {w : World} {base : Nat} {e : TypeId} {c n : Nat} {A : Option Addr} {vs : List Value} (h : w.ownsRow base e 1 (.slice A n c) n vs) : Rd w A vs := fun hv => by
  have hl : vs.length = n := by have := h.1; omega
  have hn : 0 < n := by
    rcases Nat.eq_zero_or_pos n with h0 | h0
    · subst h0; exact absurd (List.eq_nil_of_length_eq_zero hl) hv
    · exact h0
  obtain ⟨g, cap, hvv, _, hlt⟩ := h.form hn
  have hA : A = some ⟨g, 0, none⟩ := by injection hvv
  subst hA
  refine ⟨g, 0, rfl, hlt, fun j u hu => ?_⟩
  have := h.cells (g := g) rfl j u hu
  rw [add_plain] at this
  exact this

theorem octet_at {zs : List Int} {j : Nat} {v : Value} (h : (zs.map (Value.int .u8))[j]? = some v) : v = .int .u8 (zs.getD j 0) := by
  rw [List.getElem?_map] at h
  rcases hz : zs[j]? with _ | z
  · rw [hz] at h; cases h
  · rw [hz] at h
    simp at h
    subst h
    simp [List.getD, hz]

/-- string(b) -/
theorem run_string_rd {P : Program} (w : World) (src e dst : TypeId) (hs : P.underlying src = some (.slice e)) (he : P.underlying e = some (.int .u8)) (hd : P.underlying dst = some .string)
    (A : Option Addr) (zs : List Int) (c : Nat) (h : RdB w A zs) : (convert src dst (.slice A zs.length c)).run P w = .ok (.string (strOfNums zs)) w := by
  rw [run_convert_bytes_string w src dst e A _ c hs he hd]
  rcases A with _ | a
  · have hz : zs = [] := by
      rcases zs with _ | ⟨z, zs⟩
      · rfl
      · obtain ⟨b, off, e, _⟩ := h (by simp)
        cases e
    subst hz
    simp [Conv.bytesToString, strOfNums, ByteArray.empty, ByteArray.emptyWithCapacity]
    rfl
  · have hl : (loadCells a zs.length).run P w = .ok (zs.map (Value.int .u8)).toArray w := by
      have := run_loadCells_list (P := P) w a (zs.map (Value.int .u8)) (fun j v hj => by
        obtain ⟨b, off, e, _, hc⟩ := h (by rintro h0; rw [h0] at hj; simp at hj)
        injection e with e
        subst e
        rw [add_plain]
        exact hc j v hj)
      simpa using this
    rw [run_bytesToString w a zs.length c zs hl, foldl_push_bytes]
    simp [strOfNums, ByteArray.empty, ByteArray.emptyWithCapacity]
    rfl

/-- append within the capacity, in a region that draws its order. -/
theorem step_fits {P : Program} {ops : Array Oper} {o : Oper} {a : Act} {w : World} {K : Act → World → Prop} {Q : Exit → Act → World → Prop} {E : Prop}
    (hg : o.guard = none) (s x : Operand) (t : TypeId) (hop : o.op = Op.call { callee := Callee.builtin Builtin.append, args := #[s, x], argTypes := #[t, t] })
    (base : Nat) (e : TypeId) (i : TypeInfo) (size : Nat) (h1 : P.underlying t = some (.slice e)) (h2 : P.info? e = some i) (h4 : i.size = size)
    (g k cap : Nat) (xs : List Value) (hs : a.eval s = .slice (some ⟨g, 0, none⟩) k cap) (hown : w.ownsRow base e size (.slice (some ⟨g, 0, none⟩) k cap) k xs) (ad : Addr) (m c : Nat) (news : List Value) (hx : a.eval x = .slice (some ad) m c) (hn : news.length = m * size)
    (hc : ∀ j u, news[j]? = some u → w.cell? (ad.add j) = some u) (h1c : ∀ u ∈ news, u.oneCell' = true) (b1 : k + m ≤ cap)
    (hK : ∀ w', w'.ownsRow base e size (.slice (some ⟨g, 0, none⟩) (k + m) cap) (k + m) (xs ++ news) → w.grownBy w' (some g) → K (a.put o.dst (.slice (some ⟨g, 0, none⟩) (k + m) cap)) w') :
    if Region.wanted o (yielded ops a.tmps) = true then Oper.wp P o a w K Q else E := by
  have hw : Region.wanted o (yielded ops a.tmps) = true := by simp [Region.wanted, hg]
  rw [if_pos hw]
  obtain ⟨w', hrun, r1, r2⟩ := run_append_fits (P := P) w base t o.type e i size h1 h2 h4 g k cap xs hown ad m c news hn hc h1c b1
  unfold Oper.wp
  simp [execOp, hop, resolve, invoke, builtin, hs, hx, hrun, Result.andThen]
  exact hK w' r1 r2

end Go.Proofs.Ytdipdblgcdpmcaa

/-
  How a law's row is closed where nothing that lay has turned: its arguments read as they did. No conditions.
-/
import Derived.Test.YtfeeejigedndcaaGreatMW
import Derived.SizedLaws
import Derived.Carry
import Derived.LoopTactic
import Derived.Lib.Hide
import Derived.IntWalk
namespace Go.Proofs.YtfeeejigedndcaaGreat
open Go.ChangeShapes Go.WideShapes Go.ChangeAt Go.RowKit
set_option maxRecDepth 100000

theorem trodAll_below {H : Type} {enc : TypeId × Value → H} {P : Program} (hl : laidOutB P = true) {W W' : World} (hb : Below W.heap.size W W') :
    ∀ {ts : List TypeId} {vs : List Value} {ds : List (DataW H)} {ps : List MemPlace}, (∀ t ∈ ts, P.readableRec t = true ∧ t < P.types.size) → DataW.TrodAll enc P W 0 (fun _ => true) true ts vs ds ps →
      (∀ x ∈ ps, x.block < W.heap.size) → DataW.TrodAll enc P W' 0 (fun b => decide (b < W.heap.size)) true ts vs ds ps
  | [], vs, ds, ps, _, h, _ => by
    obtain ⟨rfl, rfl, rfl⟩ := trodAll_nil h
    exact trodAll_mk0
  | t :: ts, vs, ds, ps, ht, h, hlt => by
    obtain ⟨v, vs', d, ds', p, q, rfl, rfl, rfl, h0, hs⟩ := trodAll_cons h
    have h1 := ht t (by simp)
    exact trodAll_cons_mk (Below.trod hl h1.1 h1.2 h0 hb (fun x hx => hlt x (by simp [hx]))) (trodAll_below hl hb (fun u hu => ht u (by simp [hu])) hs (fun x hx => hlt x (by simp [hx])))

theorem law_post {H : Type} {enc : TypeId × Value → H} {P : Program} {f : Func} {s : ChangeSpec} {apart fresh : Bool} {W W' : World} {args : Array Value} {ds : List (DataW H)} {before : List MemPlace} {tb : TypeId}
    (hl : laidOutB P = true) (hr : ∀ t ∈ f.params.toList, P.readableRec t = true ∧ t < P.types.size) (hv : s.vars = []) (hres : f.resultTypes = #[tb]) (htb : P.underlying tb = some .bool)
    (hW : DataW.Whole enc P f.params.toList s.vars apart W args.toList ds [] before) (hB : Below W.heap.size W W')
    (h1 : (s.fn H (ds ++ [])).results = [.lit (.bool true)]) (h2 : (s.fn H (ds ++ [])).args = ds) (h3 : (s.fn H (ds ++ [])).vars = []) :
    s.post enc P f apart fresh false false W args (.bool true) W' := by
  have hlt : ∀ x ∈ before, x.block < W.heap.size := fun x hx => hW.lt x hx
  have hW0 := hW
  obtain ⟨p, q, hA, hV, rfl, _, _⟩ := hW
  refine ⟨ds, [], p ++ q, [], p, [], hW0, ?_, ?_, ?_, hB.frame _, fun h => by cases h⟩
  · rw [h1, hres]
    exact trodAll_mk1 (shut_bool htb true)
  · rw [h2]
    exact trodAll_below hl hB hr hA (fun x hx => hlt x (by simp [hx]))
  · rw [h3, hv]
    rfl

/-- A slice of octets that came in. -/
theorem open_octets {H : Type} {enc : TypeId × Value → H} {P : Program} {W : World} {t e : TypeId} {r : Reach} {b0 : Nat} {v : Value} {d : DataW H} {ps : List MemPlace} {N : Nat}
    (ht : P.underlying t = some (.slice e)) (he : P.underlying e = some (.int .u8)) (hc : P.cellsOf e = 1) (hval : Value.okWide P W r b0 t v)
    (hd : DataW.Trod enc P W 0 (fun _ => true) true t v d ps) (hlt : ∀ x ∈ ps, x.block < W.heap.size)
    (hsz : ∀ elems spare, d = .slice elems spare → elems.length + spare.length ≤ N) :
    ∃ A c zs, v = .slice A zs.length c ∧ zs.length ≤ c ∧ Octs zs ∧ zs.length ≤ N ∧ (A = none → c = 0) ∧ RdB W A zs := by
  obtain ⟨a0, len, cap, rfl⟩ := okWide_slice ht hval
  obtain ⟨fuel, hf⟩ := hd
  rcases open_ints ht he hc hf with ⟨hcs, hx⟩ | ⟨a, len', cap', zs, hcs, _, hl, hm, hz, hx, hcell, hwz⟩
  · simp [Value.cells] at hcs
    obtain ⟨rfl, rfl, rfl⟩ := hcs
    exact ⟨none, 0, [], rfl, Nat.le_refl _, fun _ h => (by cases h), by simp, fun _ => rfl, RdB.nil _ _⟩
  · simp [Value.cells] at hcs
    obtain ⟨rfl, rfl, rfl⟩ := hcs
    simp only [Prod.mk.injEq] at hx
    obtain ⟨rfl, rfl⟩ := hx
    simp only [if_true] at hz
    have hbd := hsz _ _ rfl
    simp only [lits, List.length_map, List.length_take, List.length_drop] at hbd
    have hlen : (zs.take len).length = len := by simp; omega
    refine ⟨some a, cap, zs.take len, by rw [hlen], by omega, ?_, by omega, fun h => (by cases h), ?_⟩
    · intro z hz'
      exact bounds_u8 (hwz z (List.mem_of_mem_take hz'))
    · intro hne
      have hpos : 0 < zs.length := by
        rcases zs with _ | ⟨z, zs⟩
        · simp at hne
        · simp
      have hlpos : 0 < len := by
        rcases Nat.eq_zero_or_pos len with h0 | h0
        · subst h0; simp at hne
        · exact h0
      obtain ⟨b, off, rfl, hcell'⟩ := ints_at hcell hpos
      refine ⟨b, off, rfl, hlt (.cell b off) (MemPlace.mem_row.2 ⟨0, by omega, by simp⟩), fun j u hu => ?_⟩
      have hj : j < len := by
        have := (List.getElem?_eq_some_iff.1 hu).1
        simp at this
        omega
      rw [octet_at hu, hcell' j (by omega)]
      simp [List.getD, hj]

/-- Where an argument's bytes are bounded by the form's own reach. -/
theorem sized_octets {H : Type} {P : Program} {ts : List TypeId} {ds : List (DataW H)} (h : (DataW.weightsEach P ts ds).all (· ≤ reachBytes) = true) {j : Nat} {t e : TypeId} {elems spare : List (DataW H)} (ht : ts[j]? = some t) (hd : ds[j]? = some (.slice elems spare))
    (hu : P.underlying t = some (.slice e)) (hb : P.bytesOf e = 1) : elems.length + spare.length ≤ 140737488351232 := by
  have := sized_slice h ht hd hu
  rw [hb, Nat.mul_one] at this
  exact this

/-- Where an argument's values are bounded by the second form's condition. -/
theorem bulk_length {H : Type} : ∀ l : List (DataW H), l.length ≤ Rows.uptoBulkAll l
  | [] => by simp
  | d :: l => by
    have h1 := bulk_length l
    have h2 : 1 ≤ Rows.uptoBulk d := by
      cases d with
      | lit x => cases x <;> simp [Rows.uptoBulk]
      | nil => simp [Rows.uptoBulk]
      | ptr d => simp [Rows.uptoBulk]
      | slice a b => simp [Rows.uptoBulk]
      | agg a => simp [Rows.uptoBulk]
      | iface a b => simp [Rows.uptoBulk]
      | map a => simp [Rows.uptoBulk]
      | held a => simp [Rows.uptoBulk]
    simp only [Rows.uptoBulkAll, List.length_cons]
    omega
theorem bulk_mem {H : Type} : ∀ {l : List (DataW H)} {d : DataW H}, d ∈ l → Rows.uptoBulk d ≤ Rows.uptoBulkAll l
  | x :: l, d, h => by
    simp only [Rows.uptoBulkAll]
    rcases List.mem_cons.1 h with rfl | h
    · omega
    · have := bulk_mem h
      omega
theorem bulk_octets {H : Type} {l : List (DataW H)} (hk : Rows.uptoSmall H l = true) {elems spare : List (DataW H)} (h : DataW.slice elems spare ∈ l) : elems.length + spare.length ≤ 1048576 := by
  have h1 : Rows.uptoBulkAll l ≤ 1048576 := of_decide_eq_true hk
  have h2 := bulk_mem h
  have h3 := bulk_length elems
  have h4 := bulk_length spare
  simp only [Rows.uptoBulk] at h2
  omega

end Go.Proofs.YtfeeejigedndcaaGreat

namespace Go.Proofs.YtfeeejigedndcaaGreat
open Go.ChangeShapes Go.WideShapes Go.ChangeAt Go.RowKit
set_option maxRecDepth 100000

/-- The slice whose array begins at A reads as these numbers. -/
def RdI (w : World) (A : Option Addr) (zs : List Int) : Prop := Rd w A (zs.map (Value.int .i64))

/-- All are of the machine's size. -/
def Ints (zs : List Int) : Prop := ∀ z ∈ zs, -9223372036854775808 ≤ z ∧ z ≤ 9223372036854775807

theorem RdI.nil (w : World) (A : Option Addr) : RdI w A [] := fun h => absurd rfl h

theorem RdI.below {w w' : World} {A : Option Addr} {zs : List Int} (h : RdI w A zs) (hb : Below w.heap.size w w') : RdI w' A zs := Rd.below h hb

theorem drop_at (zs : List Int) {k : Nat} {z : Int} (h : zs[k]? = some z) : zs.drop k = z :: zs.drop (k + 1) := by
  obtain ⟨hk, rfl⟩ := List.getElem?_eq_some_iff.1 h
  exact List.drop_eq_getElem_cons hk

/-- The number at k, under a name of its own. -/
theorem RdI.at_ {w : World} {A : Option Addr} {zs : List Int} (h : RdI w A zs) {k : Nat} (hk : k < zs.length) :
    ∃ b off z, A = some ⟨b, off, none⟩ ∧ b < w.heap.size ∧ w.cell? ⟨b, off + k, none⟩ = some (.int .i64 z) ∧ RowKit.Hid (zs[k]? = some z) := by
  obtain ⟨b, off, e, hb, hc⟩ := h (by intro h0; have := congrArg List.length h0; simp at this; subst this; simp at hk)
  exact ⟨b, off, zs[k], e, hb, hc k _ (by simp [List.getElem?_map, List.getElem?_eq_getElem hk]), Lib.hid (List.getElem?_eq_getElem hk)⟩

theorem number_at {zs : List Int} {j : Nat} {v : Value} (h : (zs.map (Value.int .i64))[j]? = some v) : v = .int .i64 (zs.getD j 0) := by
  rw [List.getElem?_map] at h
  rcases hz : zs[j]? with _ | z
  · rw [hz] at h; cases h
  · rw [hz] at h
    simp at h
    subst h
    simp [List.getD, hz]

/-- A slice of numbers that came in. -/
theorem open_numbers {H : Type} {enc : TypeId × Value → H} {P : Program} {W : World} {t e : TypeId} {r : Reach} {b0 : Nat} {v : Value} {d : DataW H} {ps : List MemPlace} {N : Nat}
    (ht : P.underlying t = some (.slice e)) (he : P.underlying e = some (.int .i64)) (hc : P.cellsOf e = 1) (hval : Value.okWide P W r b0 t v)
    (hd : DataW.Trod enc P W 0 (fun _ => true) true t v d ps) (hlt : ∀ x ∈ ps, x.block < W.heap.size)
    (hsz : ∀ elems spare, d = .slice elems spare → elems.length + spare.length ≤ N) :
    ∃ A c zs, v = .slice A zs.length c ∧ zs.length ≤ c ∧ Ints zs ∧ zs.length ≤ N ∧ (A = none → c = 0) ∧ RdI W A zs := by
  obtain ⟨a0, len, cap, rfl⟩ := okWide_slice ht hval
  obtain ⟨fuel, hf⟩ := hd
  rcases open_ints ht he hc hf with ⟨hcs, hx⟩ | ⟨a, len', cap', zs, hcs, _, hl, hm, hz, hx, hcell, hwz⟩
  · simp [Value.cells] at hcs
    obtain ⟨rfl, rfl, rfl⟩ := hcs
    exact ⟨none, 0, [], rfl, Nat.le_refl _, fun _ h => (by cases h), by simp, fun _ => rfl, RdI.nil _ _⟩
  · simp [Value.cells] at hcs
    obtain ⟨rfl, rfl, rfl⟩ := hcs
    simp only [Prod.mk.injEq] at hx
    obtain ⟨rfl, rfl⟩ := hx
    simp only [if_true] at hz
    have hbd := hsz _ _ rfl
    simp only [lits, List.length_map, List.length_take, List.length_drop] at hbd
    have hlen : (zs.take len).length = len := by simp; omega
    refine ⟨some a, cap, zs.take len, by rw [hlen], by omega, ?_, by omega, fun h => (by cases h), ?_⟩
    · intro z hz'
      exact bounds_i64 (hwz z (List.mem_of_mem_take hz'))
    · intro hne
      have hpos : 0 < zs.length := by
        rcases zs with _ | ⟨z, zs⟩
        · simp at hne
        · simp
      have hlpos : 0 < len := by
        rcases Nat.eq_zero_or_pos len with h0 | h0
        · subst h0; simp at hne
        · exact h0
      obtain ⟨b, off, rfl, hcell'⟩ := ints_at hcell hpos
      refine ⟨b, off, rfl, hlt (.cell b off) (MemPlace.mem_row.2 ⟨0, by omega, by simp⟩), fun j u hu => ?_⟩
      have hj : j < len := by
        have := (List.getElem?_eq_some_iff.1 hu).1
        simp at this
        omega
      rw [number_at hu, hcell' j (by omega)]
      simp [List.getD, hj]

/-- Where an argument's bytes are bounded by the form's own reach. -/
theorem sized_numbers {H : Type} {P : Program} {ts : List TypeId} {ds : List (DataW H)} (h : (DataW.weightsEach P ts ds).all (· ≤ reachBytes) = true) {j : Nat} {t e : TypeId} {elems spare : List (DataW H)} (ht : ts[j]? = some t) (hd : ds[j]? = some (.slice elems spare))
    (hu : P.underlying t = some (.slice e)) (hb : P.bytesOf e = 8) : elems.length + spare.length ≤ 17592186044416 := by
  have := sized_slice h ht hd hu
  rw [hb] at this
  have h2 : (elems.length + spare.length) * 8 ≤ 140737488351232 := this
  omega

/-- A list written out reads so. -/
theorem rd_lit (w : World) (t : TypeId) (zs : List Int) : RdI (w.alloc (.cells (zs.map (Value.int .i64)).toArray t)) (some ⟨w.heap.size, 0, none⟩) zs := fun _ => by
  refine ⟨w.heap.size, 0, rfl, by simp, fun j u hu => ?_⟩
  rw [cell_of_row (w.alloc (.cells (zs.map (Value.int .i64)).toArray t)) w.heap.size (0 + j) (zs.map (Value.int .i64)).toArray t (0, 0) (heap_alloc_new w _), Nat.zero_add]
  simpa using hu

/-- An amount. -/
def am (z : Int) : Bool := decide (0 ≤ z) && decide (z ≤ 1099511627776)

theorem am_iff {z : Int} : am z = true ↔ 0 ≤ z ∧ z ≤ 1099511627776 := by simp [am]
theorem am_not {z : Int} : am z = false ↔ z < 0 ∨ 1099511627776 < z := by
  rw [← Bool.not_eq_true, am_iff]; omega

theorem am_at {zs : List Int} (h : zs.all am = true) {k : Nat} {z : Int} (hk : zs[k]? = some z) : 0 ≤ z ∧ z ≤ 1099511627776 :=
  am_iff.1 (List.all_eq_true.1 h _ (List.mem_of_getElem? hk))

/-- The sum of the rest on top of a, or what is told of it. -/
def addR : Int → List Int → Int × Int
  | a, [] => (a, 0)
  | a, z :: zs => if 1099511627776 < a + z then (0, 15) else addR (a + z) zs

end Go.Proofs.YtfeeejigedndcaaGreat

/-
  sectors hands out the sectors of objects and then those of the index, in their order, whatever the loop over it does, as long as it keeps what lay below. Conditions: the lists are as they come in.
-/
import Derived.Test.YtfeeejigedndcaaGreatMQM
import Derived.Test.YtfeeejigedndcaaGreatMKB
import Derived.Test.YtfeeejigedndcaaGreatMDVF
namespace Go.Proofs.YtfeeejigedndcaaGreat
open Go.ChangeShapes Go.WideShapes Go.ChangeAt Go.RowKit Go.Shelf
set_option maxRecDepth 100000
attribute [local go_sem] Oper.semAt_some

/-- What is read of a store. -/
structure SecIn (m Bn : Nat) (O : Option Addr) (os : List Ob) (oc : Nat) (I : Option Addr) (is : List Int) (ic : Nat) (W : World) : Prop where
  bn : Bn < m
  c5 : W.cell? ⟨Bn, 5, none⟩ = some (.slice O os.length oc)
  c6 : W.cell? ⟨Bn, 6, none⟩ = some (.slice I is.length ic)
  arr : RdU m W O (obCells os)
  at_ : ∀ o ∈ os, RdU m W o.B (o.ns.map (Value.int .i64))
  ix : RdU m W I (is.map (Value.int .i64))
theorem SecIn.keeps {m Bn : Nat} {O : Option Addr} {os : List Ob} {oc : Nat} {I : Option Addr} {is : List Int} {ic : Nat} {W W' : World} (h : SecIn m Bn O os oc I is ic W) (hk : KeepsLo m W W') : SecIn m Bn O os oc I is ic W' :=
  ⟨h.bn, hk _ h.bn _ _ h.c5, hk _ h.bn _ _ h.c6, h.arr.keeps hk, fun o ho => (h.at_ o ho).keeps hk, h.ix.keeps hk⟩

def flatNs (os : List Ob) : List Int := os.flatMap (·.ns)
abbrev inEnc (x : Int) : Array Value := #[.int .i64 x]
theorem flatNs_at {os : List Ob} {k : Nat} {o : Ob} (h : os[k]? = some o) : flatNs (os.take (k + 1)) = flatNs (os.take k) ++ o.ns := by
  rw [List.take_add_one, h]; simp [flatNs]
theorem flatNs_le {os : List Ob} {k : Nat} {o : Ob} (h : os[k]? = some o) : (flatNs (os.take k)).length + o.ns.length ≤ (flatNs os).length := by
  conv => rhs; rw [← List.take_append_drop k os, dropA _ h]
  simp [flatNs]

theorem sectors1_in (n l m Bn B₀ : Nat) (O : Option Addr) (os : List Ob) (oc : Nat) (I : Option Addr) (is : List Int) (ic : Nat) (hol : os.length ≤ 4398046511104) (hnl : ∀ o ∈ os, o.ns.length ≤ 17592186044416) (hil : is.length ≤ 17592186044416)
    (J Jx : List Int → World → Prop) (hJ : AbidesFrom B₀ J)
    (hY : ∀ pre x W, J pre W → pre.length < (flatNs os ++ is).length → YieldAt Fence.wide (n - 1) Tryz.prog l (inEnc x) W fun e W' =>
      (e = .returned (.bool true) ∧ J (pre ++ [x]) W' ∧ KeepsLo m W W') ∨ (e = .returned (.bool false) ∧ Jx (pre ++ [x]) W'))
    (W : World) (hS : SecIn m Bn O os oc I is ic W) (h0 : J [] W) :
    CallsIn Fence.wide n Tryz.prog 67 #[.func (.yield l) #[] #[], .pointer (some ⟨Bn, 0, none⟩)] W fun e W' => (∃ v, e = .returned v) ∧
      ((∃ ys : List Int, ys = flatNs os ++ is ∧ J ys W') ∨ (∃ pre : List Int, True ∧ Jx pre W')) := by
  refine callsIn_of_wp Tryz.func67 rfl trivial ?_ rfl
  simp only [Tryz.ntmps67, List.size_toArray, List.length_cons, List.length_nil, Nat.reduceAdd, Nat.reduceSub, Array.replicate_succ, Array.replicate_zero, List.push_toArray, List.append_toArray, List.nil_append, List.cons_append]
  have hc5 := hS.c5
  gi_wp2
  gi_loopw [12] (fun i wr => ∃ (k : Nat), k ≤ os.length ∧ i = .int .i64 k ∧ Hid (SecIn m Bn O os oc I is ic wr) ∧ Hid (J (flatNs (os.take k)) wr)) (fun i _ => os.length - (intOf i).toNat)
  case atStart => exact ⟨0, Nat.zero_le _, rfl, Lib.hid hS, Lib.hid h0⟩
  case round =>
    obtain ⟨k, hk, rfl, HS, HJ⟩ := hrel
    by_cases hlt : k < os.length
    · obtain ⟨o, ho⟩ : ∃ o, os[k]? = some o := ⟨_, List.getElem?_eq_getElem hlt⟩
      obtain ⟨b, off, rfl, hb, hk0, hk1, hk2⟩ := HS.out.arr.rd.ob ho
      have hB1 : Below wr.heap.size wr (wr.alloc (.cells #[.string o.key, o.d.val, .slice o.B o.ns.length o.e] 58)) := (Below.refl _ wr).alloc (Nat.le_refl _) _
      have HS1 := Lib.hid (HS.out.keeps (KeepsLo.below hB1))
      have HJ1 := Lib.hid (abides_below hJ HJ.out hB1)
      have hmem := List.mem_of_getElem? ho
      have hnl' := hnl o hmem
      have hfl := flatNs_le ho
      have HFL := Lib.hid (flatNs_at ho)
      obtain ⟨key, ⟨dA, dz, dc⟩, oB, ns, oe⟩ := o
      dsimp only at hk1 hk0 hk2 hB1 HS1 HJ1 hnl' hfl HFL
      clear hS hc5 HS HJ hB1
      gi_wp2
      gi_loopw [19] (fun i wr => ∃ (j : Nat), j ≤ ns.length ∧ i = .int .i64 j ∧ Hid (SecIn m Bn (some ⟨b, off, none⟩) os oc I is ic wr) ∧ Hid (J (flatNs (os.take k) ++ ns.take j) wr)) (fun i _ => ns.length - (intOf i).toNat)
      case atStart => exact ⟨0, Nat.zero_le _, rfl, HS1, by simpa using HJ1⟩
      case round =>
        obtain ⟨j, hj, rfl, HS, HJ⟩ := hrel
        by_cases hlj : j < ns.length
        · obtain ⟨x, hx⟩ : ∃ x, ns[j]? = some x := ⟨_, List.getElem?_eq_getElem hlj⟩
          obtain ⟨b', off', hBe, hb', hcj⟩ := HS.out.at_ _ hmem (by intro e; have := congrArg List.length e; simp at this; subst this; simp at hlj)
          dsimp only at hBe hcj
          have hcx := hcj j (.int .i64 x) (by rw [List.getElem?_map, hx]; rfl)
          subst hBe
          obtain ⟨fn, tmps, assign, body, hy, hR⟩ := hY _ x wr HJ.out (by simp only [List.length_append, List.length_take]; omega)
          have HR := Lib.hid hR
          dsimp only [inEnc] at hy
          have HTK : Hid (ns.take (j + 1) = ns.take j ++ [x]) := Lib.hid (by rw [List.take_add_one, hx]; rfl)
          clear hR hcj HJ hk0 hk1 hk2
          gi_wp2
          refine ⟨fun h => (by cases h), HR.out.mono ?_⟩
          rintro e W3 (⟨rfl, hJ3, hk3⟩ | ⟨rfl, hJx3⟩)
          · have HS3 := Lib.hid (HS.out.keeps hk3)
            have HJ3 : Hid (J (flatNs (os.take k) ++ ns.take (j + 1)) W3) := Lib.hid (by rw [HTK.out, ← List.append_assoc]; exact hJ3)
            clear hy HR hJ3 hk3 HS
            gi_wp2
            go_roundw
            case rel => exact ⟨j + 1, by omega, by go_num, HS3, HJ3⟩
            case measure => simp [intOf]; omega
          · clear hy HR
            gi_wp2
            refine bodyPost_ret (results_none rfl _ _ _) rfl ?_
            exact ⟨⟨_, rfl⟩, .inr ⟨_, trivial, hJx3⟩⟩
        · obtain rfl : j = ns.length := by omega
          have HJ3 : Hid (J (flatNs (os.take (k + 1))) wr) := Lib.hid (by rw [HFL.out]; simpa using HJ.out)
          clear HJ
          gi_wp2
          go_roundw
          case rel => exact ⟨k + 1, by omega, by go_num, HS, HJ3⟩
          case measure => simp [intOf]; omega
    · obtain rfl : k = os.length := by omega
      have HJ1 : Hid (J (flatNs os) wr) := Lib.hid (by simpa using HJ.out)
      have hc6 := HS.out.c6
      clear HJ hS hc5
      gi_wp2
      gi_loopw [32] (fun i wr => ∃ (j : Nat), j ≤ is.length ∧ i = .int .i64 j ∧ Hid (SecIn m Bn O os oc I is ic wr) ∧ Hid (J (flatNs os ++ is.take j) wr)) (fun i _ => is.length - (intOf i).toNat)
      case atStart => exact ⟨0, Nat.zero_le _, rfl, HS, by simpa using HJ1⟩
      case round =>
        obtain ⟨j, hj, rfl, HS, HJ⟩ := hrel
        by_cases hlj : j < is.length
        · obtain ⟨x, hx⟩ : ∃ x, is[j]? = some x := ⟨_, List.getElem?_eq_getElem hlj⟩
          obtain ⟨b', off', hBe, hb', hcj⟩ := HS.out.ix (by intro e; have := congrArg List.length e; simp at this; subst this; simp at hlj)
          have hcx := hcj j (.int .i64 x) (by rw [List.getElem?_map, hx]; rfl)
          subst hBe
          obtain ⟨fn, tmps, assign, body, hy, hR⟩ := hY _ x wr HJ.out (by simp only [List.length_append, List.length_take]; omega)
          have HR := Lib.hid hR
          dsimp only [inEnc] at hy
          have HTK : Hid (is.take (j + 1) = is.take j ++ [x]) := Lib.hid (by rw [List.take_add_one, hx]; rfl)
          clear hR hcj HJ
          gi_wp2
          refine ⟨fun h => (by cases h), HR.out.mono ?_⟩
          rintro e W3 (⟨rfl, hJ3, hk3⟩ | ⟨rfl, hJx3⟩)
          · have HS3 := Lib.hid (HS.out.keeps hk3)
            have HJ3 : Hid (J (flatNs os ++ is.take (j + 1)) W3) := Lib.hid (by rw [HTK.out, ← List.append_assoc]; exact hJ3)
            clear hy HR hJ3 hk3 HS
            gi_wp2
            go_roundw
            case rel => exact ⟨j + 1, by omega, by go_num, HS3, HJ3⟩
            case measure => simp [intOf]; omega
          · clear hy HR
            gi_wp2
            refine bodyPost_ret (results_none rfl _ _ _) rfl ?_
            exact ⟨⟨_, rfl⟩, .inr ⟨_, trivial, hJx3⟩⟩
        · obtain rfl : j = is.length := by omega
          gi_wp2
          go_end0
          exact ⟨⟨_, rfl⟩, .inl ⟨_, rfl, by simpa using HJ.out⟩⟩

theorem sectors_stops (n m Bn : Nat) (O : Option Addr) (os : List Ob) (oc : Nat) (I : Option Addr) (is : List Int) (ic : Nat) (hol : os.length ≤ 4398046511104) (hnl : ∀ o ∈ os, o.ns.length ≤ 17592186044416) (hil : is.length ≤ 17592186044416)
    (w : World) (hS : SecIn m Bn O os oc I is ic w) :
    SeqStopsK Fence.wide n Tryz.prog 67 #[.pointer (some ⟨Bn, 0, none⟩)] inEnc (KeepsLo m) (fun ys : List Int => ys = flatNs os ++ is) (fun _ => True) (flatNs os ++ is).length w := fun l J Jx W hW hJ _ hY h0 =>
  sectors1_in n l m Bn _ O os oc I is ic hol hnl hil J Jx hJ hY W (hS.keeps (KeepsLo.below hW)) h0

end Go.Proofs.YtfeeejigedndcaaGreat

namespace Go.Proofs.YtfeeejigedndcaaGreat
open Go.ChangeShapes Go.WideShapes Go.ChangeAt Go.RowKit Go.Shelf
set_option maxRecDepth 100000
attribute [local go_sem] Oper.semAt_some

/-- The cells of two blocks stay. -/
def KeepsTwo (a b : Nat) (W W' : World) : Prop := KeepsBlk a W W' ∧ KeepsBlk b W W'
theorem KeepsTwo.trans {a b : Nat} {A B C : World} (h : KeepsTwo a b A B) (k : KeepsTwo a b B C) : KeepsTwo a b A C := ⟨h.1.trans k.1, h.2.trans k.2⟩
theorem KeepsTwo.putObj {a b : Nat} (W : World) (l : Nat) (o o' : Obj) (h : W.heap[l]? = some o) (hc : o.isCells = false) : KeepsTwo a b W (W.putObj l o') := ⟨KeepsBlk.putObj W l o o' h hc, KeepsBlk.putObj W l o o' h hc⟩

/-- How many pieces of m a list of L has. -/
def cntM (m L : Nat) : Nat := (L + (m - 1)) / m
theorem cntM_lt {m L k : Nat} (hm : 0 < m) : m * k < L ↔ k < cntM m L := by
  unfold cntM
  constructor
  · intro h
    have : k + 1 ≤ (L + (m - 1)) / m := by
      rw [Nat.le_div_iff_mul_le hm]
      rw [Nat.add_mul, Nat.mul_comm k m]
      omega
    omega
  · intro h
    have : k + 1 ≤ (L + (m - 1)) / m := by omega
    rw [Nat.le_div_iff_mul_le hm, Nat.add_mul, Nat.mul_comm k m] at this
    omega
theorem cntM_52 (L : Nat) : cntM 52 L = (L + 51) / 52 := rfl
/-- One of the places. -/
abbrev CX (N : Nat) := { i : Nat // i < N }
def cvals {N : Nat} (xs : List (CX N)) : List Nat := xs.map Subtype.val
theorem cvals_snoc {N : Nat} (xs : List (CX N)) (x : CX N) : cvals (xs ++ [x]) = cvals xs ++ [x.1] := by simp [cvals, List.map_append]
theorem cvals_length {N : Nat} (xs : List (CX N)) : (cvals xs).length = xs.length := by simp [cvals]
/-- A piece as a slice. -/
abbrev cxEnc (m b off L : Nat) {N : Nat} (x : CX N) : Array Value := #[.slice (some ⟨b, off + m * x.1, none⟩) (min m (L - m * x.1)) (min m (L - m * x.1))]

set_option maxHeartbeats 1000000 in
theorem chunkB1_in (n l Bn Bm B₀ b off c L m : Nat) (hm : 0 < m) (hm2 : m ≤ 1048576) (hL : L ≤ 140737488351232) (hc : L ≤ c) (A : Option Addr) (hA : 0 < L → A = some ⟨b, off, none⟩) (J Jx : List (CX (cntM m L)) → World → Prop) (hJ : AbidesFrom B₀ J)
    (hY : ∀ pre x W, J pre W → pre.length < cntM m L → YieldAt Fence.wide (n - 1) Tryz.prog l (cxEnc m b off L x) W fun e W' =>
      (e = .returned (.bool true) ∧ J (pre ++ [x]) W' ∧ KeepsTwo Bn Bm W W') ∨ (e = .returned (.bool false) ∧ Jx (pre ++ [x]) W'))
    (W : World) (hc0 : W.cell? ⟨Bn, 0, none⟩ = some (.slice A L c)) (hd0 : W.cell? ⟨Bm, 0, none⟩ = some (.int .i64 m)) (h0 : J [] W) :
    CallsIn Fence.wide n Tryz.prog 116 #[.func (.yield l) #[] #[], .pointer (some ⟨Bn, 0, none⟩), .pointer (some ⟨Bm, 0, none⟩)] W fun e W' => (∃ v, e = .returned v) ∧
      ((∃ ys : List (CX (cntM m L)), cvals ys = List.range (cntM m L) ∧ J ys W') ∨ (∃ pre : List (CX (cntM m L)), True ∧ Jx pre W')) := by
  refine callsIn_of_wp Tryz.func116 rfl trivial ?_ rfl
  simp only [Tryz.ntmps116, List.size_toArray, List.length_cons, List.length_nil, Nat.reduceAdd, Nat.reduceSub, Array.replicate_succ, Array.replicate_zero, List.push_toArray, List.append_toArray, List.nil_append, List.cons_append]
  gi_wp2
  gi_loopw [4] (fun i wr => ∃ (k : Nat) (pre : List (CX (cntM m L))), k ≤ cntM m L ∧ i = .int .i64 ((m * k : Nat) : Int) ∧ Hid (cvals pre = List.range k) ∧ wr.cell? ⟨Bn, 0, none⟩ = some (.slice A L c) ∧ wr.cell? ⟨Bm, 0, none⟩ = some (.int .i64 m) ∧ Hid (J pre wr))
    (fun i _ => m * cntM m L - (intOf i).toNat)
  case atStart =>
    exact ⟨0, [], Nat.zero_le _, rfl, Lib.hid rfl, hc0, hd0, Lib.hid h0⟩
  case round =>
    obtain ⟨k, pre, hk, rfl, HPRE, hc', hd', HJ⟩ := hrel
    have hub : m * cntM m L < L + m := by
      unfold cntM
      have := Nat.div_mul_le_self (L + (m - 1)) m
      rw [Nat.mul_comm] at this
      omega
    have hmk1 : m * (k + 1) = m * k + m := Nat.mul_succ m k
    by_cases hlt : k < cntM m L
    · have h52 : m * k < L := (cntM_lt hm).2 hlt
      have hAA := hA (by omega)
      subst hAA
      have hprel : pre.length = k := by
        have := congrArg List.length HPRE.out
        rw [cvals_length, List.length_range] at this
        exact this
      obtain ⟨fn, tmps, assign, body, hy, hR⟩ := hY pre ⟨k, hlt⟩ wr.drew (abides_below hJ HJ.out (Below.refl _ _).drew) (by omega)
      dsimp only [cxEnc] at hy
      have HR := Lib.hid hR
      have hmk : m * k + m ≤ m * cntM m L := by rw [← Nat.mul_succ]; exact Nat.mul_le_mul_left m (by omega)
      have HK1 : Hid (k + 1 ≤ cntM m L) := Lib.hid (by omega)
      have HPR1 : Hid (cvals (pre ++ [⟨k, hlt⟩]) = List.range (k + 1)) := Lib.hid (by rw [cvals_snoc, HPRE.out, List.range_succ])
      clear hc0 hd0 hA hR HPRE HJ
      generalize hmk0 : m * k = mk at *
      have h2 : ((mk : Nat) : Int) < L := by omega
      obtain ⟨r, hr⟩ : ∃ r, L - mk = r := ⟨_, rfl⟩
      rw [hr] at hy
      have hcell : wr.drew.cell? ⟨Bn, 0, none⟩ = some (.slice (some ⟨b, off, none⟩) L c) := hc'
      have hceld : wr.drew.cell? ⟨Bm, 0, none⟩ = some (.int .i64 m) := hd'
      have HUB := Lib.hid hub
      have HMK := Lib.hid hmk
      have HM1 := Lib.hid hmk1
      have HM0 := Lib.hid hmk0
      have hr0 : 0 < r := by omega
      clear hub hmk hmk1 hmk0
      by_cases h3 : m ≤ r
      · rw [Nat.min_eq_left h3] at hy
        have hif : ¬ (L - mk < m) := by rw [hr]; exact Nat.not_lt.2 h3
        clear h0
        gi_wp2
        gi_region
        obtain ⟨q, hq⟩ : ∃ q, mk + m = q := ⟨_, rfl⟩
        have hqi : (mk : Int) + (m : Int) = (q : Int) := by omega
        have hqc : (q : Int) ≤ c := by omega
        have hqm : (mk : Int) ≤ q := by omega
        have hq5 : q - mk = m := by omega
        have hqn : ¬ q = mk := by omega
        have hqw : wrap64 (q : Int) = q := IntWalk.wrap64_in _ (by omega)
        have HLC := Lib.hid (And.intro hL (And.intro hc (And.intro hm (And.intro hm2 (And.intro hr (And.intro h3 hq))))))
        clear hif h3 hr0 hr hm2 hm hL hc hq
        gi_wp2
        refine ⟨fun h => (by cases h), HR.out.mono ?_⟩
        rintro e W3 (⟨rfl, hJ3, hk3⟩ | ⟨rfl, hJx3⟩)
        · have hc3 := hk3.1 _ _ hcell
          have hd3 := hk3.2 _ _ hceld
          clear hy HR hcell hceld hc' hd'
          gi_wp2
          go_roundw
          case rel =>
            refine ⟨k + 1, pre ++ [⟨k, hlt⟩], HK1.out, ?_, HPR1, hc3, hd3, Lib.hid hJ3⟩
            rw [HM1.out]
            obtain ⟨g1, g2, g3, g4, g5, g6, g7⟩ := HLC.out
            rw [hqw, ← g7]
          case measure =>
            have h1 := HMK.out
            obtain ⟨g1, g2, g3, g4, g5, g6, g7⟩ := HLC.out
            rw [hqw]
            generalize m * cntM m L = M at *
            simp only [intOf, Int.toNat_natCast]
            omega
        · clear hy HR
          gi_wp2
          refine bodyPost_ret (results_none rfl _ _ _) rfl ?_
          exact ⟨⟨_, rfl⟩, .inr ⟨_, trivial, hJx3⟩⟩
      · rw [Nat.min_eq_right (Nat.le_of_lt (Nat.not_le.1 h3))] at hy
        have hif : L - mk < m := by rw [hr]; exact Nat.not_le.1 h3
        clear h0
        gi_wp2
        gi_region
        obtain ⟨q, hq⟩ : ∃ q, mk + r = q := ⟨_, rfl⟩
        have hqi : (mk : Int) + (r : Int) = (q : Int) := by omega
        have hqc : (q : Int) ≤ c := by omega
        have hqm : (mk : Int) ≤ q := by omega
        have hq5 : q - mk = r := by omega
        have hqn : ¬ q = mk := by omega
        have hqw : wrap64 (q : Int) = q := IntWalk.wrap64_in _ (by omega)
        have HLC := Lib.hid (And.intro hL (And.intro hc (And.intro hm (And.intro hm2 (And.intro hr (And.intro h3 hq))))))
        clear hif h3 hr0 hr hm2 hm hL hc hq
        gi_wp2
        refine ⟨fun h => (by cases h), HR.out.mono ?_⟩
        rintro e W3 (⟨rfl, hJ3, hk3⟩ | ⟨rfl, hJx3⟩)
        · have hc3 := hk3.1 _ _ hcell
          have hd3 := hk3.2 _ _ hceld
          clear hy HR hcell hceld hc' hd'
          gi_wp2
          go_roundw
          case rel =>
            refine ⟨k + 1, pre ++ [⟨k, hlt⟩], HK1.out, ?_, HPR1, hc3, hd3, Lib.hid hJ3⟩
            rw [HM1.out]
            obtain ⟨g1, g2, g3, g4, g5, g6, g7⟩ := HLC.out
            rw [IntWalk.wrap64_in ((mk : Int) + m) (by clear hqw; omega)]
            push_cast
            rfl
          case measure =>
            have h1 := HMK.out
            obtain ⟨g1, g2, g3, g4, g5, g6, g7⟩ := HLC.out
            rw [IntWalk.wrap64_in ((mk : Int) + m) (by clear hqw; omega)]
            generalize m * cntM m L = M at *
            simp only [intOf]
            clear hqw
            omega
        · clear hy HR
          gi_wp2
          refine bodyPost_ret (results_none rfl _ _ _) rfl ?_
          exact ⟨⟨_, rfl⟩, .inr ⟨_, trivial, hJx3⟩⟩
    · obtain rfl : k = cntM m L := by omega
      have h2n : ¬ m * cntM m L < L := fun h => Nat.lt_irrefl _ ((cntM_lt (k := cntM m L) (L := L) hm).1 h)
      clear hc0 hd0 hA hub hmk1
      generalize hmk0 : m * cntM m L = mk at *
      have HM0 := Lib.hid hmk0
      clear hmk0
      have h2 : ¬ (mk : Int) < L := by omega
      gi_wp2
      go_end0
      exact ⟨⟨_, rfl⟩, .inl ⟨pre, HPRE.out, HJ.out⟩⟩


theorem chunkB_in (n : Nat) (A : Option Addr) (k c m : Nat) (hm : 0 < m) (hm2 : m ≤ 1048576) (w : World) :
    CallsIn Fence.wide n Tryz.prog 97 #[.slice A k c, .int .i64 m] w fun e w' => e = .returned (.func (.func 116) #[] #[.pointer (some ⟨w.heap.size, 0, none⟩), .pointer (some ⟨w.heap.size + 1, 0, none⟩)]) ∧ w' = (w.alloc (.cells #[.slice A k c] 46)).alloc (.cells #[.int .i64 m] 3) := by
  have hm1 : ¬ (m : Int) < 1 := by omega
  refine callsIn_of_wp Tryz.func97 rfl trivial ?_ rfl
  simp only [Tryz.ntmps97, List.size_toArray, List.length_cons, List.length_nil, Nat.reduceAdd, Nat.reduceSub, Array.replicate_succ, Array.replicate_zero, List.push_toArray, List.append_toArray, List.nil_append, List.cons_append]
  gi_wp2
  go_ret
  exact ⟨rfl, rfl⟩

theorem chunkB_stops (n Bn Bm b off c L m : Nat) (hm : 0 < m) (hm2 : m ≤ 1048576) (hL : L ≤ 140737488351232) (hc : L ≤ c) (A : Option Addr) (hA : 0 < L → A = some ⟨b, off, none⟩) (w : World) (h1 : Bn < w.heap.size) (h2 : Bm < w.heap.size) (hc0 : w.cell? ⟨Bn, 0, none⟩ = some (.slice A L c)) (hd0 : w.cell? ⟨Bm, 0, none⟩ = some (.int .i64 m)) :
    SeqStopsK Fence.wide n Tryz.prog 116 #[.pointer (some ⟨Bn, 0, none⟩), .pointer (some ⟨Bm, 0, none⟩)] (cxEnc m b off L) (KeepsTwo Bn Bm) (fun ys : List (CX (cntM m L)) => cvals ys = List.range (cntM m L)) (fun _ => True) (cntM m L) w := fun l J Jx W hW hJ _ hY h0 =>
  chunkB1_in n l Bn Bm _ b off c L m hm hm2 hL hc A hA J Jx hJ hY W ((hW.cell (p := ⟨Bn, 0, none⟩) h1).trans hc0) ((hW.cell (p := ⟨Bm, 0, none⟩) h2).trans hd0) h0

end Go.Proofs.YtfeeejigedndcaaGreat

namespace Go.Proofs.YtfeeejigedndcaaGreat
open Go.ChangeShapes Go.WideShapes Go.ChangeAt Go.RowKit Go.Shelf
set_option maxRecDepth 100000
attribute [local go_sem] Oper.semAt_some

set_option maxHeartbeats 1000000 in
theorem chunkS1_in (n l Bn Bm b off c L m : Nat) (hm : 0 < m) (hm2 : m ≤ 1048576) (hL : L ≤ 140737488351232) (hc : L ≤ c) (A : Option Addr) (hA : 0 < L → A = some ⟨b, off, none⟩) (J Jx : List (CX (cntM m L)) → World → Prop) (hJ : ∀ s A B, J s A → Below A.heap.size A B → J s B)
    (hY : ∀ pre x W, J pre W → x.1 = pre.length → pre.length < cntM m L → YieldAt Fence.wide (n - 1) Tryz.prog l (cxEnc m b off L x) W fun e W' =>
      (e = .returned (.bool true) ∧ J (pre ++ [x]) W' ∧ KeepsTwo Bn Bm W W') ∨ (e = .returned (.bool false) ∧ Jx (pre ++ [x]) W'))
    (W : World) (hc0 : W.cell? ⟨Bn, 0, none⟩ = some (.slice A L c)) (hd0 : W.cell? ⟨Bm, 0, none⟩ = some (.int .i64 m)) (h0 : J [] W) :
    CallsIn Fence.wide n Tryz.prog 110 #[.func (.yield l) #[] #[], .pointer (some ⟨Bn, 0, none⟩), .pointer (some ⟨Bm, 0, none⟩)] W fun e W' => (∃ v, e = .returned v) ∧
      ((∃ ys : List (CX (cntM m L)), cvals ys = List.range (cntM m L) ∧ J ys W') ∨ (∃ pre : List (CX (cntM m L)), True ∧ Jx pre W')) := by
  refine callsIn_of_wp Tryz.func110 rfl trivial ?_ rfl
  simp only [Tryz.ntmps110, List.size_toArray, List.length_cons, List.length_nil, Nat.reduceAdd, Nat.reduceSub, Array.replicate_succ, Array.replicate_zero, List.push_toArray, List.append_toArray, List.nil_append, List.cons_append]
  gi_wp2
  gi_loopw [4] (fun i wr => ∃ (k : Nat) (pre : List (CX (cntM m L))), k ≤ cntM m L ∧ i = .int .i64 ((m * k : Nat) : Int) ∧ Hid (cvals pre = List.range k) ∧ wr.cell? ⟨Bn, 0, none⟩ = some (.slice A L c) ∧ wr.cell? ⟨Bm, 0, none⟩ = some (.int .i64 m) ∧ Hid (J pre wr))
    (fun i _ => m * cntM m L - (intOf i).toNat)
  case atStart =>
    exact ⟨0, [], Nat.zero_le _, rfl, Lib.hid rfl, hc0, hd0, Lib.hid h0⟩
  case round =>
    obtain ⟨k, pre, hk, rfl, HPRE, hc', hd', HJ⟩ := hrel
    have hub : m * cntM m L < L + m := by
      unfold cntM
      have := Nat.div_mul_le_self (L + (m - 1)) m
      rw [Nat.mul_comm] at this
      omega
    have hmk1 : m * (k + 1) = m * k + m := Nat.mul_succ m k
    by_cases hlt : k < cntM m L
    · have h52 : m * k < L := (cntM_lt hm).2 hlt
      have hAA := hA (by omega)
      subst hAA
      have hprel : pre.length = k := by
        have := congrArg List.length HPRE.out
        rw [cvals_length, List.length_range] at this
        exact this
      obtain ⟨fn, tmps, assign, body, hy, hR⟩ := hY pre ⟨k, hlt⟩ wr.drew (hJ _ _ _ HJ.out (Below.refl _ _).drew) hprel.symm (by omega)
      dsimp only [cxEnc] at hy
      have HR := Lib.hid hR
      have hmk : m * k + m ≤ m * cntM m L := by rw [← Nat.mul_succ]; exact Nat.mul_le_mul_left m (by omega)
      have HK1 : Hid (k + 1 ≤ cntM m L) := Lib.hid (by omega)
      have HPR1 : Hid (cvals (pre ++ [⟨k, hlt⟩]) = List.range (k + 1)) := Lib.hid (by rw [cvals_snoc, HPRE.out, List.range_succ])
      clear hc0 hd0 hA hR HPRE HJ
      generalize hmk0 : m * k = mk at *
      have h2 : ((mk : Nat) : Int) < L := by omega
      obtain ⟨r, hr⟩ : ∃ r, L - mk = r := ⟨_, rfl⟩
      rw [hr] at hy
      have hcell : wr.drew.cell? ⟨Bn, 0, none⟩ = some (.slice (some ⟨b, off, none⟩) L c) := hc'
      have hceld : wr.drew.cell? ⟨Bm, 0, none⟩ = some (.int .i64 m) := hd'
      have HUB := Lib.hid hub
      have HMK := Lib.hid hmk
      have HM1 := Lib.hid hmk1
      have HM0 := Lib.hid hmk0
      have hr0 : 0 < r := by omega
      clear hub hmk hmk1 hmk0
      by_cases h3 : m ≤ r
      · rw [Nat.min_eq_left h3] at hy
        have hif : ¬ (L - mk < m) := by rw [hr]; exact Nat.not_lt.2 h3
        clear h0
        gi_wp2
        gi_region
        obtain ⟨q, hq⟩ : ∃ q, mk + m = q := ⟨_, rfl⟩
        have hqi : (mk : Int) + (m : Int) = (q : Int) := by omega
        have hqc : (q : Int) ≤ c := by omega
        have hqm : (mk : Int) ≤ q := by omega
        have hq5 : q - mk = m := by omega
        have hqn : ¬ q = mk := by omega
        have hqw : wrap64 (q : Int) = q := IntWalk.wrap64_in _ (by omega)
        have HLC := Lib.hid (And.intro hL (And.intro hc (And.intro hm (And.intro hm2 (And.intro hr (And.intro h3 hq))))))
        clear hif h3 hr0 hr hm2 hm hL hc hq
        gi_wp2
        refine ⟨fun h => (by cases h), HR.out.mono ?_⟩
        rintro e W3 (⟨rfl, hJ3, hk3⟩ | ⟨rfl, hJx3⟩)
        · have hc3 := hk3.1 _ _ hcell
          have hd3 := hk3.2 _ _ hceld
          clear hy HR hcell hceld hc' hd'
          gi_wp2
          go_roundw
          case rel =>
            refine ⟨k + 1, pre ++ [⟨k, hlt⟩], HK1.out, ?_, HPR1, hc3, hd3, Lib.hid hJ3⟩
            rw [HM1.out]
            obtain ⟨g1, g2, g3, g4, g5, g6, g7⟩ := HLC.out
            rw [hqw, ← g7]
          case measure =>
            have h1 := HMK.out
            obtain ⟨g1, g2, g3, g4, g5, g6, g7⟩ := HLC.out
            rw [hqw]
            generalize m * cntM m L = M at *
            simp only [intOf, Int.toNat_natCast]
            omega
        · clear hy HR
          gi_wp2
          refine bodyPost_ret (results_none rfl _ _ _) rfl ?_
          exact ⟨⟨_, rfl⟩, .inr ⟨_, trivial, hJx3⟩⟩
      · rw [Nat.min_eq_right (Nat.le_of_lt (Nat.not_le.1 h3))] at hy
        have hif : L - mk < m := by rw [hr]; exact Nat.not_le.1 h3
        clear h0
        gi_wp2
        gi_region
        obtain ⟨q, hq⟩ : ∃ q, mk + r = q := ⟨_, rfl⟩
        have hqi : (mk : Int) + (r : Int) = (q : Int) := by omega
        have hqc : (q : Int) ≤ c := by omega
        have hqm : (mk : Int) ≤ q := by omega
        have hq5 : q - mk = r := by omega
        have hqn : ¬ q = mk := by omega
        have hqw : wrap64 (q : Int) = q := IntWalk.wrap64_in _ (by omega)
        have HLC := Lib.hid (And.intro hL (And.intro hc (And.intro hm (And.intro hm2 (And.intro hr (And.intro h3 hq))))))
        clear hif h3 hr0 hr hm2 hm hL hc hq
        gi_wp2
        refine ⟨fun h => (by cases h), HR.out.mono ?_⟩
        rintro e W3 (⟨rfl, hJ3, hk3⟩ | ⟨rfl, hJx3⟩)
        · have hc3 := hk3.1 _ _ hcell
          have hd3 := hk3.2 _ _ hceld
          clear hy HR hcell hceld hc' hd'
          gi_wp2
          go_roundw
          case rel =>
            refine ⟨k + 1, pre ++ [⟨k, hlt⟩], HK1.out, ?_, HPR1, hc3, hd3, Lib.hid hJ3⟩
            rw [HM1.out]
            obtain ⟨g1, g2, g3, g4, g5, g6, g7⟩ := HLC.out
            rw [IntWalk.wrap64_in ((mk : Int) + m) (by clear hqw; omega)]
            push_cast
            rfl
          case measure =>
            have h1 := HMK.out
            obtain ⟨g1, g2, g3, g4, g5, g6, g7⟩ := HLC.out
            rw [IntWalk.wrap64_in ((mk : Int) + m) (by clear hqw; omega)]
            generalize m * cntM m L = M at *
            simp only [intOf]
            clear hqw
            omega
        · clear hy HR
          gi_wp2
          refine bodyPost_ret (results_none rfl _ _ _) rfl ?_
          exact ⟨⟨_, rfl⟩, .inr ⟨_, trivial, hJx3⟩⟩
    · obtain rfl : k = cntM m L := by omega
      have h2n : ¬ m * cntM m L < L := fun h => Nat.lt_irrefl _ ((cntM_lt (k := cntM m L) (L := L) hm).1 h)
      clear hc0 hd0 hA hub hmk1
      generalize hmk0 : m * cntM m L = mk at *
      have HM0 := Lib.hid hmk0
      clear hmk0
      have h2 : ¬ (mk : Int) < L := by omega
      gi_wp2
      go_end0
      exact ⟨⟨_, rfl⟩, .inl ⟨pre, HPRE.out, HJ.out⟩⟩


theorem chunkS_in (n : Nat) (A : Option Addr) (k c m : Nat) (hm : 0 < m) (hm2 : m ≤ 1048576) (w : World) :
    CallsIn Fence.wide n Tryz.prog 87 #[.slice A k c, .int .i64 m] w fun e w' => e = .returned (.func (.func 110) #[] #[.pointer (some ⟨w.heap.size, 0, none⟩), .pointer (some ⟨w.heap.size + 1, 0, none⟩)]) ∧ w' = (w.alloc (.cells #[.slice A k c] 123)).alloc (.cells #[.int .i64 m] 3) := by
  have hm1 : ¬ (m : Int) < 1 := by omega
  refine callsIn_of_wp Tryz.func87 rfl trivial ?_ rfl
  simp only [Tryz.ntmps87, List.size_toArray, List.length_cons, List.length_nil, Nat.reduceAdd, Nat.reduceSub, Array.replicate_succ, Array.replicate_zero, List.push_toArray, List.append_toArray, List.nil_append, List.cons_append]
  gi_wp2
  go_ret
  exact ⟨rfl, rfl⟩

theorem chunkS_stops (n Bn Bm b off c L m : Nat) (hm : 0 < m) (hm2 : m ≤ 1048576) (hL : L ≤ 140737488351232) (hc : L ≤ c) (A : Option Addr) (hA : 0 < L → A = some ⟨b, off, none⟩) (w : World) (h1 : Bn < w.heap.size) (h2 : Bm < w.heap.size) (hc0 : w.cell? ⟨Bn, 0, none⟩ = some (.slice A L c)) (hd0 : w.cell? ⟨Bm, 0, none⟩ = some (.int .i64 m)) :
    SeqStopsK Fence.wide n Tryz.prog 110 #[.pointer (some ⟨Bn, 0, none⟩), .pointer (some ⟨Bm, 0, none⟩)] (cxEnc m b off L) (KeepsTwo Bn Bm) (fun ys : List (CX (cntM m L)) => cvals ys = List.range (cntM m L)) (fun _ => True) (cntM m L) w := fun l J Jx W hW hJ _ hY h0 =>
  chunkS1_in n l Bn Bm b off c L m hm hm2 hL hc A hA J Jx (fun _ _ _ h hb => abides_below hJ h hb) (fun pre x W h _ => hY pre x W h) W ((hW.cell (p := ⟨Bn, 0, none⟩) h1).trans hc0) ((hW.cell (p := ⟨Bm, 0, none⟩) h2).trans hd0) h0

end Go.Proofs.YtfeeejigedndcaaGreat

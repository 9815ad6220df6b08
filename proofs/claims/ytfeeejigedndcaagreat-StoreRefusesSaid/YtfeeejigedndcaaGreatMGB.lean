/-
  Slices of octets as values; Join of what lies in one block. No conditions.
-/
import Derived.Test.YtfeeejigedndcaaGreatMUM
import Derived.Test.YtfeeejigedndcaaGreatMRL
import Derived.Test.YtfeeejigedndcaaGreatMI
import Derived.Test.YtfeeejigedndcaaGreatMFW
import Derived.IntWalk
import Derived.Lib.Hide
import Derived.Lib.AppendStr
import Derived.LoopTactic
namespace Go.Proofs.YtfeeejigedndcaaGreat
open Go.ChangeShapes Go.WideShapes Go.ChangeAt Go.RowKit
set_option maxRecDepth 100000

/-- A slice of n octets that are these. -/
def SlB (n : Nat) (zs : List Int) (v : Value) (w : World) : Prop := ∃ A c, v = .slice A n c ∧ RdB w A zs
theorem SlB.below {n : Nat} {zs : List Int} {v : Value} {w w' : World} (h : SlB n zs v w) (hB : Below w.heap.size w w') : SlB n zs v w' := by
  obtain ⟨A, c, e, hr⟩ := h
  exact ⟨A, c, e, hr.below hB⟩
theorem SlB.stays {n m : Nat} {zs : List Int} {v : Value} {w w' : World} (h : SlB n zs v w) (hB : Stays m w w') : SlB n zs v w' := by
  obtain ⟨A, c, e, hr⟩ := h
  exact ⟨A, c, e, hB.rd hr⟩
theorem RdB.of_blk {w : World} {g : Nat} {t : TypeId} {zs : List Int} (h : Blk w g t (zs.map (Value.int .u8))) : RdB w (some ⟨g, 0, none⟩) zs := fun _ => by
  refine ⟨g, 0, rfl, h.lt, fun j u hu => ?_⟩
  rw [Nat.zero_add]
  exact (h.cell j).trans hu

/-- Join of the slices that lie in one block. -/
theorem join_blk (ps : List Part) (n g : Nat) (t : TypeId) (w : World) (zs : List Int) (m : Nat) (hn : ps.length = n) (hn' : n ≤ 1048576) (hz : cat ps = zs) (hm : zs.length = m) (hb : Blk w g t (ps.map Part.val)) (hok : ∀ p ∈ ps, RdB w p.A p.zs ∧ p.zs.length ≤ 1048576) :
    Calls Tryz.prog 103 #[.slice (some ⟨g, 0, none⟩) n n] w fun e w' => ∃ v, e = .returned v ∧ w'.ownsRow w.heap.size 5 1 v m (octCells zs) ∧ Below w.heap.size w w' := by
  subst hn hm hz
  exact callsIn_wide.1 (join_in (some ⟨g, 0, none⟩) ps.length ps hn' w (fun _ => ⟨g, 0, rfl, hb.lt, fun j u hu => by
    rw [Nat.zero_add]
    exact (hb.cell j).trans hu⟩) hok)

end Go.Proofs.YtfeeejigedndcaaGreat

namespace Go.Proofs.YtfeeejigedndcaaGreat
open Go.ChangeShapes Go.WideShapes Go.ChangeAt Go.RowKit
set_option maxRecDepth 100000

structure Slc where
  A : Option Addr
  zs : List Int
  c : Nat
def Slc.ok (s : Slc) (w : World) : Prop := s.zs.length ≤ s.c ∧ s.zs.length ≤ maxLen ∧ Octs s.zs ∧ RdB w s.A s.zs
theorem Slc.ok.below {s : Slc} {w w' : World} (h : s.ok w) (hB : Below w.heap.size w w') : s.ok w' := ⟨h.1, h.2.1, h.2.2.1, h.2.2.2.below hB⟩
abbrev Slc.val (s : Slc) : Value := .slice s.A s.zs.length s.c
theorem slc_ok {A : Option Addr} {c : Nat} {zs : List Int} {W : World} (hc : zs.length ≤ c) (ho : Octs zs) (hl : zs.length ≤ 140737488351232) (hr : RdB W A zs) : (Slc.mk A zs c).ok W := ⟨hc, by unfold maxLen; show zs.length ≤ _; omega, ho, hr⟩

end Go.Proofs.YtfeeejigedndcaaGreat

namespace Go.Proofs.YtfeeejigedndcaaGreat
open Go.ChangeShapes Go.WideShapes Go.ChangeAt Go.RowKit
set_option maxRecDepth 100000

theorem str_inj {a b : List Int} (ha : Octs a) (hb : Octs b) (h : strOfNums a = strOfNums b) : a = b := by
  have h1 : (strOfNums a).data.toList = (strOfNums b).data.toList := by rw [h]
  simp only [strOfNums] at h1
  have h2 : ∀ l : List Int, Octs l → (l.map fun z => UInt8.ofNat z.toNat).map (fun x => (x.toNat : Int)) = l := fun l hl => by
    rw [List.map_map]
    conv => rhs; rw [← List.map_id l]
    refine List.map_congr_left fun z hz => ?_
    obtain ⟨h0, h1⟩ := hl z hz
    have : z.toNat % 256 = z.toNat := by omega
    simp only [Function.comp, UInt8.toNat_ofNat', id]
    rw [this]
    omega
  rw [← h2 a ha, ← h2 b hb]
  simpa using congrArg (List.map fun x : UInt8 => (x.toNat : Int)) h1
theorem str_beq {a b : List Int} (ha : Octs a) (hb : Octs b) : ((strOfNums a).toList == (strOfNums b).toList) = decide (a = b) := by
  rw [ByteArray.toList_eq, ByteArray.toList_eq, Bool.eq_iff_iff]
  simp only [beq_iff_eq, decide_eq_true_eq]
  exact ⟨fun h => str_inj ha hb (by
    have : (strOfNums a).data = (strOfNums b).data := Array.ext' h
    generalize strOfNums a = x at *
    generalize strOfNums b = y at *
    obtain ⟨x⟩ := x
    obtain ⟨y⟩ := y
    exact congrArg _ this), fun h => by rw [h]⟩

set_option maxHeartbeats 400000 in
theorem equal_any (A : Option Addr) (n c : Nat) (xs : List Int) (hn : xs.length = n) (ho : Octs xs) (B : Option Addr) (m d : Nat) (ys : List Int) (hm : ys.length = m) (hp : Octs ys) (w : World) (hr : RdB w A xs) (hs : RdB w B ys) :
    Calls Tryz.prog 76 #[.slice A n c, .slice B m d] w fun e w' => e = .returned (.bool (decide (xs = ys))) ∧ w = w' := by
  have hb := str_beq ho hp
  have HB := Lib.hid hb
  have hcv := run_string_rd (P := Tryz.prog) w 46 5 9 Tryz.underlying46 Tryz.underlying5 Tryz.underlying9 A xs c hr
  have hcw := run_string_rd (P := Tryz.prog) w 46 5 9 Tryz.underlying46 Tryz.underlying5 Tryz.underlying9 B ys d hs
  rw [hn] at hcv
  rw [hm] at hcw
  clear hb hn hm ho hp hr hs
  generalize decide (xs = ys) = bb at *
  generalize strOfNums xs = s1 at *
  generalize strOfNums ys = s2 at *
  go_enter Tryz.func76, Tryz.ntmps76
  go_wp2
  go_ret
  exact ⟨by rw [← HB.out]; rfl, rfl⟩

theorem numO_four {zs : List Int} (h : Octs zs) (hl : zs.length ≤ 4) : (numO zs).1 = val zs := by
  have h1 := (val_bound zs h).2
  have h2 : (256 : Nat) ^ zs.length ≤ 256 ^ 4 := Nat.pow_le_pow_right (by decide) hl
  have h3 : val zs < 4294967296 := by
    have : ((256 ^ zs.length : Nat) : Int) ≤ ((256 ^ 4 : Nat) : Int) := Int.ofNat_le.2 h2
    have e : ((256 ^ 4 : Nat) : Int) = 4294967296 := by decide
    omega
  unfold numO
  rw [if_neg (by omega)]
theorem rd_mid {w : World} {b off : Nat} {zs : List Int} (h : RdB w (some ⟨b, off, none⟩) zs) (k m : Nat) : RdB w (some ⟨b, off + k, none⟩) ((zs.drop k).take m) := fun hne => by
  obtain ⟨b', o', e, hb, hc⟩ := h (by rintro h0; apply hne; simp at h0; simp [h0])
  injection e with e
  injection e with e1 e2
  subst e1 e2
  refine ⟨b, off + k, rfl, hb, fun j u hu => ?_⟩
  rw [Nat.add_assoc]
  refine hc (k + j) u ?_
  rw [List.getElem?_map] at hu ⊢
  rcases hx : ((zs.drop k).take m)[j]? with _ | z
  · rw [hx] at hu; cases hu
  · rw [hx] at hu
    have h2 : (zs.drop k)[j]? = some z := by
      rw [List.getElem?_take] at hx
      split at hx
      · exact hx
      · cases hx
    rw [List.getElem?_drop] at h2
    rw [h2]
    exact hu

theorem RdB.take {w : World} {A : Option Addr} {zs : List Int} (h : RdB w A zs) (k : Nat) : RdB w A (zs.take k) := fun hne => by
  obtain ⟨b, off, e, hb, hc⟩ := h (by rintro h0; apply hne; simp at h0; simp [h0])
  refine ⟨b, off, e, hb, fun j u hu => hc j u ?_⟩
  rw [List.getElem?_map] at hu ⊢
  rcases hx : (zs.take k)[j]? with _ | z
  · rw [hx] at hu; cases hu
  · rw [hx] at hu
    rw [List.getElem?_take] at hx
    split at hx
    · rw [hx]; exact hu
    · cases hx

end Go.Proofs.YtfeeejigedndcaaGreat

namespace Go.Proofs.YtfeeejigedndcaaGreat
open Go.ChangeShapes Go.WideShapes Go.ChangeAt Go.RowKit
set_option maxRecDepth 100000

/-- How many pages a number of octets needs. -/
def cntI (n : Int) : Int := if n ≤ 0 then 0 else (n - 1) / 52 + 1
theorem cntI_nat (n : Nat) : cntI n = (cntN n : Nat) := by
  unfold cntI cntN
  split <;> omega

set_option maxHeartbeats 400000 in
theorem count_any (n : Int) (hn : n ≤ 9223372036854775807) (w : World) :
    Calls Tryz.prog 42 #[.int .i64 n] w fun e w' => e = .returned (.int .i64 (cntI n)) ∧ w = w' := by
  by_cases h : n ≤ 0
  · have hr : cntI n = 0 := by unfold cntI; rw [if_pos h]
    rw [hr]
    clear hr
    go_enter Tryz.func42, Tryz.ntmps42
    go_wp2
    go_ret
    exact ⟨rfl, rfl⟩
  · have hr : cntI n = (n - 1) / 52 + 1 := by unfold cntI; rw [if_neg h]
    rw [hr]
    clear hr
    have h1 : wrap64 (n - 1) = n - 1 := IntWalk.wrap64_in _ (by omega)
    have h2 : (n - 1).tdiv 52 = (n - 1) / 52 := Int.tdiv_eq_ediv_of_nonneg (by omega)
    have h3 : wrap64 ((n - 1) / 52) = (n - 1) / 52 := IntWalk.wrap64_in _ (by omega)
    have h4 : wrap64 ((n - 1) / 52 + 1) = (n - 1) / 52 + 1 := IntWalk.wrap64_in _ (by omega)
    go_enter Tryz.func42, Tryz.ntmps42
    go_wp2
    go_ret
    refine ⟨?_, rfl⟩
    first | rfl | (simp only [h1, h2, h3, h4])

set_option maxHeartbeats 400000 in
theorem number2_any (A : Option Addr) (n c : Nat) (zs : List Int) (hn : zs.length = n) (h1 : 1 ≤ n) (h8 : n ≤ 4) (ho : Octs zs) (w : World) (hr : RdB w A zs) :
    Calls Tryz.prog 126 #[.slice A n c] w fun e w' => e = .returned (.int .i64 (val zs)) ∧ w = w' := by
  subst hn
  have hv : (numO zs).1 = val zs := numO_four ho (by omega)
  obtain ⟨r, hr'⟩ : ∃ r, numO zs = r := ⟨_, rfl⟩
  have hc : Calls Tryz.prog 127 #[.slice A zs.length c] w fun e w' => e = .returned (ansN r.1 r.2) ∧ w = w' := by
    rw [← hr']
    by_cases hv : val zs ≤ 4611686018427387903
    · have : numO zs = (val zs, 0) := by unfold numO; rw [if_neg (by omega)]
      rw [this]
      exact number_ok A c zs h1 (by omega) ho w hr hv
    · have : numO zs = (0, 4) := by unfold numO; rw [if_pos (by omega)]
      rw [this]
      exact number_big A c zs h1 (by omega) ho w hr (by omega)
  rw [hr'] at hv
  rw [← hv]
  obtain ⟨a, b⟩ := r
  have HC := Lib.hid hc
  clear hc hr' hr ho hv
  go_enter Tryz.func126, Tryz.ntmps126
  go_wp2_with (refine HC.out.mono ?_; rintro e w1 ⟨rfl, rfl⟩; unfold ansN)
  go_ret
  exact ⟨rfl, rfl⟩

end Go.Proofs.YtfeeejigedndcaaGreat

namespace Go.Proofs.YtfeeejigedndcaaGreat
open Go.ChangeShapes Go.WideShapes Go.ChangeAt Go.RowKit
set_option maxRecDepth 100000

theorem zeros_are (k : Nat) : Array.replicate k (Value.int .u8 0) = ((List.replicate k (0 : Int)).map (Value.int .u8)).toArray := by simp
theorem makeZ (m : Int) (k : Nat) (hk : m = k) (hk' : k ≤ 1048576) (W : World) : (Instr.makeSlice 46 (.int .i64 m) (.int .i64 m)).run Tryz.prog W = .ok (.slice (some ⟨W.heap.size, 0, none⟩) k k) (W.alloc (.cells ((List.replicate k (0 : Int)).map (Value.int .u8)).toArray 5)) := by
  subst hk
  obtain ⟨i0, hi, hz0, hz1, hz2⟩ := info_parts info5
  have := run_makeSlice (P := Tryz.prog) (w := W) 46 5 i0 (.int .u8 0) Tryz.underlying46 hi hz0 .i64 .i64 k k (by omega) (by omega) (by rw [hz1]; omega) (by rw [hz2]; omega) (by omega)
  rw [hz1] at this
  have e : madeCells (Value.int .u8 0).cells k = ((List.replicate k (0 : Int)).map (Value.int .u8)).toArray := Array.ext' (by simp [Value.cells, toList_madeCells_one])
  rw [← e]
  simpa using this

set_option maxHeartbeats 2000000 in
set_option maxRecDepth 100000 in
theorem pageEncode_ok (s : Slc) (next : Int) (hp : pgE s.zs.length next = 0) (w : World) (hs : s.ok w) :
    Calls Tryz.prog 98 #[s.val, .int .i64 next] w fun e w' => ∃ v, e = .returned (.tuple #[v, .int .i64 0]) ∧ w'.ownsRow w.heap.size 5 1 v 64 (octCells (pgO s.zs next)) ∧ Below w.heap.size w w' := by
  obtain ⟨A, zs, c⟩ := s
  obtain ⟨hc, hl, ho, hr⟩ := hs
  dsimp only at hp hc hl ho hr
  unfold Slc.val
  dsimp only
  obtain ⟨h1, h2, h3⟩ := pgE_ok.1 hp
  obtain ⟨n, hn⟩ : ∃ n, zs.length = n := ⟨_, rfl⟩
  have HL := Lib.hid (pgHead_length (b := zs) next h1)
  have HOL := Lib.hid (pgO_length (b := zs) next h1)
  rw [hn] at hc hl h1 ⊢
  have hh : cat [⟨none, put (n : Int) 2, 2⟩, ⟨none, put next 2, 2⟩, ⟨none, zs, c⟩, ⟨none, List.replicate (52 - n) 0, 52⟩] = pgHead zs next := by subst hn; simp [cat, pgHead]
  have PL := Lib.hid (put_any (n : Int) 2 (by omega))
  have PN := Lib.hid (put_any next 2 (by omega))
  have ll2 := Lib.hid (put_length (n : Int) 2)
  have ln2 := Lib.hid (put_length next 2)
  have HJ := Lib.hid (fun g (w : World) A1 A2 A3 A4 c1 c2 c3 c4 => join_blk [⟨A1, put (n : Int) 2, c1⟩, ⟨A2, put next 2, c2⟩, ⟨A3, zs, c3⟩, ⟨A4, List.replicate (52 - n) 0, c4⟩] 4 g 46 w (pgHead zs next) 56 rfl (by omega) hh HL.out)
  have HOF := Lib.hid (fun A c => of_any A 56 c (pgHead zs next) HL.out (by omega))
  have HHO := Lib.hid (pgHead_octs next ho)
  have hsok : (feedS zeroS (words (pgHead zs next))).ok := feedS_ok _ zeroS_ok _
  have HOO : Hid (pgO zs next = pgHead zs next ++ put (feedS zeroS (words (pgHead zs next))).A 8) := rfl
  generalize feedS zeroS (words (pgHead zs next)) = ss at HOF HOO hsok
  have hpw := put_wrap ss.A hsok.1.1 hsok.1.2
  have hpa := put_any (wrap64 ss.A) 8 (by omega)
  rw [hpw] at hpa
  have PA := Lib.hid hpa
  have la8 := Lib.hid (put_length ss.A 8)
  obtain ⟨sA, sB, sC, sD⟩ := ss
  dsimp only at hsok hpa PA la8 HOO
  generalize pgO zs next = zo at HOO HOL ⊢
  generalize pgHead zs next = zh at HL HJ HOF HHO HOO
  have HN := Lib.hid hn
  have HR := Lib.hid hr
  clear hh hsok hpw hpa hr hn hl ho hp
  generalize put (n : Int) 2 = zt at *
  generalize put next 2 = zf at *
  generalize put sA 8 = za at *
  have hmk : wrap64 (52 - (n : Int)) = ((52 - n : Nat) : Int) := by rw [IntWalk.wrap64_in _ (by omega)]; omega
  have hle : ((n : Int) ≤ 52) := by omega
  have hfd : ∀ w : World, (Instr.field 129 (.agg #[.int .u64 sA, .int .u64 sB, .int .u64 sC, .int .u64 sD]) 0).run Tryz.prog w = .ok (.int .u64 sA) w := fun _ => by kernel_rfl
  go_enter Tryz.func98, Tryz.ntmps98
  go_wp2_with fail
  refine wp_region_noPanic ?_
  refine wp_region_last 10 (fun _ => True) (by kernel_rfl) trivial (fun hHeld => ?_)
  refine wpAnyL_take 16 (i := 0) (oi := ⟨some 16, _, _, _, _, _⟩) (v := ?_) rfl (by kernel_rfl) (by kernel_rfl) (by kernel_rfl) (by kernel_rfl) (by kernel_rfl) (by kernel_rfl) (by kernel_rfl) (fun _ _ _ h => h) (Or.inl ⟨by rfl, ?_⟩) hHeld ?_
  rotate_left
  focus (intro w hSw; (try dsimp only at hSw); go_simp; try (with_reducible rfl))
  try simp only [Act.put, List.setIfInBounds_toArray, List.set_cons_zero, List.set_cons_succ]
  refine wpAnyL_take 16 (i := 1) (oi := ⟨some 17, _, _, _, _, _⟩) (v := ?_) rfl (by kernel_rfl) (by kernel_rfl) (by kernel_rfl) (by kernel_rfl) (by kernel_rfl) (by kernel_rfl) (by kernel_rfl) (fun _ _ _ h => h) (Or.inl ⟨by rfl, ?_⟩) hHeld ?_
  rotate_left
  focus (intro w hSw; (try dsimp only at hSw); go_simp; try (with_reducible rfl))
  try simp only [Act.put, List.setIfInBounds_toArray, List.set_cons_zero, List.set_cons_succ]
  refine wpAnyL_take 16 (i := 3) (oi := ⟨some 19, _, _, _, _, _⟩) (v := ?_) rfl (by kernel_rfl) (by kernel_rfl) (by kernel_rfl) (by kernel_rfl) (by kernel_rfl) (by kernel_rfl) (by kernel_rfl) (fun _ _ _ h => h) (Or.inl ⟨by rfl, ?_⟩) hHeld ?_
  rotate_left
  focus (intro w hSw; (try dsimp only at hSw); go_simp; try (with_reducible rfl))
  try simp only [Act.put, List.setIfInBounds_toArray, List.set_cons_zero, List.set_cons_succ]
  refine wpAnyL_take 16 (i := 5) (oi := ⟨some 21, _, _, _, _, _⟩) (v := ?_) rfl (by kernel_rfl) (by kernel_rfl) (by kernel_rfl) (by kernel_rfl) (by kernel_rfl) (by kernel_rfl) (by kernel_rfl) (fun _ _ _ h => h) (Or.inl ⟨by rfl, ?_⟩) hHeld ?_
  rotate_left
  focus (intro w hSw; (try dsimp only at hSw); go_simp; try (with_reducible rfl))
  try simp only [Act.put, List.setIfInBounds_toArray, List.set_cons_zero, List.set_cons_succ]
  refine wpAnyL_take 16 (i := 6) (oi := ⟨some 22, _, _, _, _, _⟩) (v := ?_) rfl (by kernel_rfl) (by kernel_rfl) (by kernel_rfl) (by kernel_rfl) (by kernel_rfl) (by kernel_rfl) (by kernel_rfl) (fun _ _ _ h => h) (Or.inl ⟨by rfl, ?_⟩) hHeld ?_
  rotate_left
  focus (intro w hSw; (try dsimp only at hSw); go_simp; try (with_reducible rfl))
  try simp only [Act.put, List.setIfInBounds_toArray, List.set_cons_zero, List.set_cons_succ]
  refine wpAnyL_take 16 (i := 7) (oi := ⟨some 23, _, _, _, _, _⟩) (v := ?_) rfl (by kernel_rfl) (by kernel_rfl) (by kernel_rfl) (by kernel_rfl) (by kernel_rfl) (by kernel_rfl) (by kernel_rfl) (fun _ _ _ h => h) (Or.inl ⟨by rfl, ?_⟩) hHeld ?_
  rotate_left
  focus (intro w hSw; (try dsimp only at hSw); go_simp; try (with_reducible rfl))
  try simp only [Act.put, List.setIfInBounds_toArray, List.set_cons_zero, List.set_cons_succ]
  refine wpAnyL_take 16 (i := 8) (oi := ⟨some 24, _, _, _, _, _⟩) (v := ?_) rfl (by kernel_rfl) (by kernel_rfl) (by kernel_rfl) (by kernel_rfl) (by kernel_rfl) (by kernel_rfl) (by kernel_rfl) (fun _ _ _ h => h) (Or.inl ⟨by rfl, ?_⟩) hHeld ?_
  rotate_left
  focus (intro w hSw; (try dsimp only at hSw); go_simp; try (with_reducible rfl))
  try simp only [Act.put, List.setIfInBounds_toArray, List.set_cons_zero, List.set_cons_succ]
  clear hHeld
  refine wpAnyL_facts 16 3 3 [(2, 18), (4, 20), (9, 25)] (fun s v w => match s with
    | 18 => SlB 2 zt v w
    | 20 => SlB 2 zf v w
    | 25 => SlB (52 - n) (List.replicate (52 - n) 0) v w
    | _ => True) (fun w w' => Below w.heap.size w w') (by kernel_rfl) (by kernel_rfl) (fun w w' h h' => h.trans (h'.mono h.size)) ⟨?_, ?_, ?_, trivial⟩ (fun _ _ => trivial) ⟨?_, ?_, ?_, trivial⟩ ?_
  focus
    intro v w w' h hB
    exact h.below hB
  focus
    intro v w w' h hB
    exact h.below hB
  focus
    intro v w w' h hB
    exact h.below hB
  focus
    intro vs w2 hBf hFf o ho K hK
    obtain rfl : (⟨some 18, _, _, _, _, _⟩ : Oper) = o := Option.some.inj ho
    clear ho
    (try simp only [fillL, List.foldl_cons, List.foldl_nil, Act.put, List.setIfInBounds_toArray, List.set_cons_zero, List.set_cons_succ] at hK ⊢)
    go_simp
    refine (PL.out w2).mono ?_
    rintro e w3 ⟨A1, c1, rfl, hr1, hc1, hB3⟩
    refine hK.out _ _ ⟨⟨_, _, rfl, hr1⟩, hB3⟩
  focus
    intro vs w2 hBf hFf o ho K hK
    obtain rfl : (⟨some 20, _, _, _, _, _⟩ : Oper) = o := Option.some.inj ho
    clear ho
    (try simp only [fillL, List.foldl_cons, List.foldl_nil, Act.put, List.setIfInBounds_toArray, List.set_cons_zero, List.set_cons_succ] at hK ⊢)
    go_simp
    refine (PN.out w2).mono ?_
    rintro e w3 ⟨A1, c1, rfl, hr1, hc1, hB3⟩
    refine hK.out _ _ ⟨⟨_, _, rfl, hr1⟩, hB3⟩
  focus
    intro vs w2 hBf hFf o ho K hK
    obtain rfl : (⟨some 25, _, _, _, _, _⟩ : Oper) = o := Option.some.inj ho
    clear ho
    (try simp only [fillL, List.foldl_cons, List.foldl_nil, Act.put, List.setIfInBounds_toArray, List.set_cons_zero, List.set_cons_succ] at hK ⊢)
    have hm := makeZ (IntKind.i64.wrap (52 - (n : Int))) (52 - n) (by rw [IntWalk.i64_in _ (by omega)]; omega) (by omega) w2
    go_simp
    rw [zeros_are]
    refine hK.out _ _ ⟨⟨_, _, rfl, RdB.of_blk (Blk.new w2 ((List.replicate (52 - n) (0 : Int)).map (Value.int .u8)) 5)⟩, (Below.refl _ _).alloc (Nat.le_refl _) _⟩
  intro vs w2 hBf hFf
  (try simp only [fillL, List.foldl_cons, List.foldl_nil, Act.put, List.setIfInBounds_toArray, List.set_cons_zero, List.set_cons_succ])
  obtain ⟨A1, c1, e1, hr1⟩ := (hFf (2, 18) (by simp))
  obtain ⟨A2, c2, e2, hr2⟩ := (hFf (4, 20) (by simp))
  obtain ⟨A4, c4, e4, hr4⟩ := (hFf (9, 25) (by simp))
  have hr3 := HR.out.below ((Below.refl _ _).drew.trans hBf)
  simp only [e1, e2, e4]
  refine wpAnyL_last (i := 10) (o := ⟨some 26, _, _, _, _, _⟩) (by kernel_rfl) rfl (by kernel_rfl) (fun K hK => ?_)
  go_simp
  refine hK.out _ _ ?_
  clear hK K
  try simp only [Act.put, List.setIfInBounds_toArray, List.set_cons_zero, List.set_cons_succ]
  refine wpAnyL_last (i := 11) (o := ⟨some 27, _, _, _, _, _⟩) (by kernel_rfl) rfl (by kernel_rfl) (fun K hK => ?_)
  go_simp
  have hB24 : Below w2.heap.size w2 (w2.alloc (.cells #[.slice A1 2 c1, .slice A2 2 c2, .slice A n c, .slice A4 (52 - n) c4] 46)) := (Below.refl _ _).alloc (Nat.le_refl _) _
  have hbj : Blk (w2.alloc (.cells #[.slice A1 2 c1, .slice A2 2 c2, .slice A n c, .slice A4 (52 - n) c4] 46)) w2.heap.size 46 (([⟨A1, zt, c1⟩, ⟨A2, zf, c2⟩, ⟨A, zs, c⟩, ⟨A4, List.replicate (52 - n) 0, c4⟩] : List Part).map Part.val) := by
    have := Blk.new w2 [Value.slice A1 2 c1, .slice A2 2 c2, .slice A n c, .slice A4 (52 - n) c4] 46
    simp only [List.map_cons, List.map_nil, Part.val, ll2.out, ln2.out, HN.out, List.length_replicate]
    exact this
  refine (HJ.out w2.heap.size _ A1 A2 A A4 c1 c2 c c4 hbj (fun p hp => ?_)).mono ?_
  focus
    simp only [List.mem_cons, List.not_mem_nil, or_false] at hp
    rcases hp with rfl | rfl | rfl | rfl
    · exact ⟨hr1.below hB24, by simp only [ll2.out]; omega⟩
    · exact ⟨hr2.below hB24, by simp only [ln2.out]; omega⟩
    · exact ⟨hr3.below hB24, by simp only [HN.out]; omega⟩
    · exact ⟨hr4.below hB24, by simp only [List.length_replicate]; omega⟩
  rintro e w3 ⟨v3, rfl, hown3, hB3⟩
  have hB13 : Below w.heap.size w w3 := ((Below.refl w.heap.size w).drew.trans hBf).trans ((hB24.trans (hB3.mono hB24.size)).mono hBf.size)
  have HO3 := Lib.hid hown3
  clear hown3 hbj hr1 hr2 hr3 hr4 e1 e2 e4
  go_wp2_with fail
  refine hK.out _ _ ?_
  clear hK K
  try simp only [Act.put, List.setIfInBounds_toArray, List.set_cons_zero, List.set_cons_succ]
  refine wpAnyL_last (i := 12) (o := ⟨some 6, _, _, _, _, _⟩) (by kernel_rfl) rfl (by kernel_rfl) (fun K hK => ?_)
  go_simp
  refine hK.out _ _ ?_
  clear hK K
  try simp only [Act.put, List.setIfInBounds_toArray, List.set_cons_zero, List.set_cons_succ]
  refine wpAnyL_done (by kernel_rfl) ?_ _
  refine NoPanic.normal ?_
  obtain ⟨A6, c6, rfl, hc6, hr6⟩ := own_slice HO3.out
  have HR6 := Lib.hid hr6
  clear hr6 hFf HJ
  go_wp2_with fail
  refine (HOF.out A6 c6 hc6 HHO.out w3 HR6.out).mono ?_
  rintro e w4 ⟨rfl, hB4⟩
  have HR64 := Lib.hid (RdB.below HR6.out hB4)
  have hB04 : Below w.heap.size w w4 := hB13.trans (hB4.mono hB13.size)
  clear HR6 HO3 hB4 HOF
  try unfold S4.val
  try dsimp only
  go_wp2_with fail
  refine (PA.out w4).mono ?_
  rintro e w5 ⟨A7, c7, rfl, hr7, hc7, hB5⟩
  have HR65 := Lib.hid (HR64.out.below hB5)
  have hB05 : Below w.heap.size w w5 := hB04.trans (hB5.mono hB04.size)
  have HR7 := Lib.hid hr7
  clear HR64 hr7 hB5 PA
  go_wp2_with fail
  have hB6 : Below w5.heap.size w5 (w5.alloc (.cells #[.slice A6 56 c6, .slice A7 8 c7] 46)) := (Below.refl _ _).alloc (Nat.le_refl _) _
  have hbj : Blk (w5.alloc (.cells #[.slice A6 56 c6, .slice A7 8 c7] 46)) w5.heap.size 46 (([⟨A6, zh, c6⟩, ⟨A7, za, c7⟩] : List Part).map Part.val) := by
    have := Blk.new w5 [Value.slice A6 56 c6, .slice A7 8 c7] 46
    simp only [List.map_cons, List.map_nil, Part.val, HL.out, la8.out]
    exact this
  refine (join_blk _ 2 w5.heap.size 46 _ zo 64 rfl (by omega) (by rw [HOO.out]; simp [cat]) HOL.out hbj (fun p hp => ?_)).mono ?_
  · simp only [List.mem_cons, List.not_mem_nil, or_false] at hp
    rcases hp with rfl | rfl
    · exact ⟨HR65.out.below hB6, by simp only [HL.out]; omega⟩
    · exact ⟨HR7.out.below hB6, by simp only [la8.out]; omega⟩
  rintro e w7 ⟨v7, rfl, hown7, hB7⟩
  have hB07 : Below w.heap.size w w7 := (hB05.trans (hB6.mono hB05.size)).trans (hB7.mono (Nat.le_trans hB05.size hB6.size))
  have HO7 := Lib.hid (own_below hown7 (Below.refl _ _) (Nat.le_trans hB05.size hB6.size))
  clear hown7 hbj HR65 HR7 hB7
  go_wp2_with fail
  go_ret2
  exact ⟨v7, rfl, HO7.out, hB07⟩

set_option maxHeartbeats 1000000 in
theorem pageEncode_no (s : Slc) (next : Int) (hp : pgE s.zs.length next ≠ 0) (w : World) (hs : s.ok w) :
    Calls Tryz.prog 98 #[s.val, .int .i64 next] w fun e w' => e = .returned (.tuple #[.slice none 0 0, .int .i64 (pgE s.zs.length next)]) ∧ w = w' := by
  obtain ⟨A, zs, c⟩ := s
  obtain ⟨hc, hl, _, _⟩ := hs
  unfold maxLen at hl
  dsimp only at hp hc hl ⊢
  unfold Slc.val
  dsimp only
  unfold pgE at hp ⊢
  generalize zs.length = n at *
  by_cases h1 : 52 < n
  · rw [if_pos h1]
    clear hp
    go_enter Tryz.func98, Tryz.ntmps98
    go_wp2
    go_ret2
    exact ⟨rfl, rfl⟩
  · rw [if_neg h1] at hp ⊢
    by_cases h2 : next < 0 ∨ 8192 ≤ next
    · rw [if_pos h2]
      clear hp
      have h3 : ¬ (52 : Int) < n := by omega
      by_cases h4 : next < 0
      · go_enter Tryz.func98, Tryz.ntmps98
        go_wp2
        go_ret2
        exact ⟨rfl, rfl⟩
      · have h5 : 8192 ≤ next := by omega
        go_enter Tryz.func98, Tryz.ntmps98
        go_wp2
        go_ret2
        exact ⟨rfl, rfl⟩
    · rw [if_neg h2] at hp
      exact absurd rfl hp

end Go.Proofs.YtfeeejigedndcaaGreat

namespace Go.Proofs.YtfeeejigedndcaaGreat
open Go.ChangeShapes Go.WideShapes Go.ChangeAt Go.RowKit
set_option maxRecDepth 100000

/-- The cells of an uberblock stay, and what lies above. -/
theorem held3 {W W' : World} {g : Nat} {a b c : Value} (hg : g < W.heap.size) (h0 : W.cell? ⟨g, 0, none⟩ = some a) (h1 : W.cell? ⟨g, 1, none⟩ = some b) (h2 : W.cell? ⟨g, 2, none⟩ = some c) (hB : Below W.heap.size W W') :
    W'.cell? ⟨g, 0, none⟩ = some a ∧ W'.cell? ⟨g, 1, none⟩ = some b ∧ W'.cell? ⟨g, 2, none⟩ = some c :=
  ⟨(hB.cell (p := ⟨g, 0, none⟩) hg).trans h0, (hB.cell (p := ⟨g, 1, none⟩) hg).trans h1, (hB.cell (p := ⟨g, 2, none⟩) hg).trans h2⟩

def mark4 : List Int := [103, 100, 110, 49]

def z12A : Array Value := #[.int .u8 0, .int .u8 0, .int .u8 0, .int .u8 0, .int .u8 0, .int .u8 0, .int .u8 0, .int .u8 0, .int .u8 0, .int .u8 0, .int .u8 0, .int .u8 0]
theorem make12 (W : World) : (Instr.makeSlice 46 (.int .i64 12) (.int .i64 12)).run Tryz.prog W = .ok (.slice (some ⟨W.heap.size, 0, none⟩) 12 12) (W.alloc (.cells z12A 5)) := by
  obtain ⟨i0, hi, hz0, hz1, hz2⟩ := info_parts info5
  have := run_makeSlice (P := Tryz.prog) (w := W) 46 5 i0 (.int .u8 0) Tryz.underlying46 hi hz0 .i64 .i64 12 12 (by omega) (by omega) (by rw [hz1]; decide) (by rw [hz2]; omega) (by omega)
  rw [hz1] at this
  have e : madeCells (Value.int .u8 0).cells 12 = z12A := Array.ext' (by simp [Value.cells, toList_madeCells_one, z12A])
  rw [← e]
  exact this
theorem z12A_is : z12A = ((List.replicate 12 (0 : Int)).map (Value.int .u8)).toArray := rfl

set_option maxHeartbeats 2000000 in
set_option maxRecDepth 100000 in
theorem encode_ok (u : Ub) (hu : u.ok = true) (w : World) :
    Calls Tryz.prog 82 #[u.val] w fun e w' => ∃ v, e = .returned (.tuple #[v, .int .i64 0]) ∧ w'.ownsRow w.heap.size 5 1 v 64 (octCells u.octs) ∧ Below w.heap.size w w' := by
  have hck := uberCheck_any u
  rw [Ub.err_ok hu] at hck
  have HCK := Lib.hid hck
  have hh : cat [⟨none, mark4, 4⟩, ⟨none, put u.t 8, 8⟩, ⟨none, put u.f 4, 4⟩, ⟨none, put u.o 4, 4⟩, ⟨none, List.replicate 12 0, 12⟩] = u.head := by simp [cat, Ub.head, mark4]
  have HH := Lib.hid hh
  have HL := Lib.hid u.head_length
  have PT := Lib.hid (put_any u.t 8 (by omega))
  have PF := Lib.hid (put_any u.f 4 (by omega))
  have PO := Lib.hid (put_any u.o 4 (by omega))
  have lt8 := Lib.hid (put_length u.t 8)
  have lf4 := Lib.hid (put_length u.f 4)
  have lo4 := Lib.hid (put_length u.o 4)
  have HJ := Lib.hid (fun g (w : World) A1 A2 A3 A4 A5 c1 c2 c3 c4 c5 => join_blk [⟨A1, mark4, c1⟩, ⟨A2, put u.t 8, c2⟩, ⟨A3, put u.f 4, c3⟩, ⟨A4, put u.o 4, c4⟩, ⟨A5, List.replicate 12 0, c5⟩] 5 g 46 w u.head 32 rfl (by omega) hh u.head_length)
  have HOF := Lib.hid (fun A c => of_any A 32 c u.head u.head_length (by omega))
  have HHO := Lib.hid u.head_octs
  have hsok : (feedS zeroS (words u.head)).ok := feedS_ok _ zeroS_ok _
  have HOO : Hid (u.octs = u.head ++ sumOcts (feedS zeroS (words u.head))) := rfl
  have HOC := Lib.hid (octets_any (feedS zeroS (words u.head)) hsok)
  have HSL := Lib.hid (sumOcts_length (feedS zeroS (words u.head)))
  generalize feedS zeroS (words u.head) = ss at HOF HOO HOC HSL
  generalize u.octs = zo at HOO ⊢
  generalize u.head = zh at HH HL HJ HOF HHO HOO
  clear hh hck hu hsok
  obtain ⟨t, f, o⟩ := u
  dsimp only at PT PF PO lt8 lf4 lo4 HJ HH
  generalize put t 8 = zt at *
  generalize put f 4 = zf at *
  generalize put o 4 = zq at *
  go_enter Tryz.func82, Tryz.ntmps82
  go_wp2_with fail
  obtain ⟨w0, hw0⟩ : ∃ w0, w.alloc (.cells #[.int .i64 t, .int .i64 f, .int .i64 o] 29) = w0 := ⟨_, rfl⟩
  have hB0 : Below w.heap.size w w0 := hw0 ▸ (Below.refl _ w).alloc (Nat.le_refl _) _
  have kb : Blk w0 w.heap.size 29 [.int .i64 t, .int .i64 f, .int .i64 o] := hw0 ▸ Blk.new w [.int .i64 t, .int .i64 f, .int .i64 o] 29
  rw [hw0]
  refine (HCK.out w0).mono ?_
  rintro e w1 ⟨rfl, hB1⟩
  have kb1 := kb.below hB1 kb.lt
  have hB01 : Below w.heap.size w w1 := hB0.trans (hB1.mono hB0.size)
  have hc0 := kb1.cell 0
  have hc1 := kb1.cell 1
  have hc2 := kb1.cell 2
  have hbl := kb1.lt
  simp only [List.getElem?_cons_zero, List.getElem?_cons_succ] at hc0 hc1 hc2
  clear hw0 kb hB1
  have HZ : Hid (zh = zh) := rfl
  go_wp2_with fail
  refine wp_region_noPanic ?_
  refine wp_region_last 12 (fun W' => W'.cell? ⟨w.heap.size, 0, none⟩ = some (.int .i64 t) ∧ W'.cell? ⟨w.heap.size, 1, none⟩ = some (.int .i64 f) ∧ W'.cell? ⟨w.heap.size, 2, none⟩ = some (.int .i64 o)) (by kernel_rfl) ⟨hc0, hc1, hc2⟩ (fun hHeld => ?_)
  refine wpAnyL_take 16 (i := 2) (oi := ⟨some 13, _, _, _, _, _⟩) (v := ?_) rfl (by kernel_rfl) (by kernel_rfl) (by kernel_rfl) (by kernel_rfl) (by kernel_rfl) (by kernel_rfl) (by kernel_rfl) (fun _ _ _ h => h) (Or.inl ⟨by rfl, ?_⟩) hHeld ?_
  rotate_left
  focus (intro w hSw; (try dsimp only at hSw); go_simp; try (with_reducible rfl))
  try simp only [Act.put, List.setIfInBounds_toArray, List.set_cons_zero, List.set_cons_succ]
  refine wpAnyL_take 16 (i := 3) (oi := ⟨some 14, _, _, _, _, _⟩) (v := ?_) rfl (by kernel_rfl) (by kernel_rfl) (by kernel_rfl) (by kernel_rfl) (by kernel_rfl) (by kernel_rfl) (by kernel_rfl) (fun _ _ _ h => h) (Or.inl ⟨by rfl, ?_⟩) hHeld ?_
  rotate_left
  focus (intro w hSw; (try dsimp only at hSw); go_simp; try (with_reducible rfl))
  try simp only [Act.put, List.setIfInBounds_toArray, List.set_cons_zero, List.set_cons_succ]
  refine wpAnyL_take 16 (i := 5) (oi := ⟨some 16, _, _, _, _, _⟩) (v := ?_) rfl (by kernel_rfl) (by kernel_rfl) (by kernel_rfl) (by kernel_rfl) (by kernel_rfl) (by kernel_rfl) (by kernel_rfl) (fun _ _ _ h => h) (Or.inl ⟨by rfl, ?_⟩) hHeld ?_
  rotate_left
  focus (intro w hSw; (try dsimp only at hSw); go_simp; try (with_reducible rfl))
  try simp only [Act.put, List.setIfInBounds_toArray, List.set_cons_zero, List.set_cons_succ]
  refine wpAnyL_take 16 (i := 6) (oi := ⟨some 17, _, _, _, _, _⟩) (v := ?_) rfl (by kernel_rfl) (by kernel_rfl) (by kernel_rfl) (by kernel_rfl) (by kernel_rfl) (by kernel_rfl) (by kernel_rfl) (fun _ _ _ h => h) (Or.inl ⟨by rfl, ?_⟩) hHeld ?_
  rotate_left
  focus (intro w hSw; (try dsimp only at hSw); go_simp; try (with_reducible rfl))
  try simp only [Act.put, List.setIfInBounds_toArray, List.set_cons_zero, List.set_cons_succ]
  refine wpAnyL_take 16 (i := 8) (oi := ⟨some 19, _, _, _, _, _⟩) (v := ?_) rfl (by kernel_rfl) (by kernel_rfl) (by kernel_rfl) (by kernel_rfl) (by kernel_rfl) (by kernel_rfl) (by kernel_rfl) (fun _ _ _ h => h) (Or.inl ⟨by rfl, ?_⟩) hHeld ?_
  rotate_left
  focus (intro w hSw; (try dsimp only at hSw); go_simp; try (with_reducible rfl))
  try simp only [Act.put, List.setIfInBounds_toArray, List.set_cons_zero, List.set_cons_succ]
  refine wpAnyL_take 16 (i := 9) (oi := ⟨some 20, _, _, _, _, _⟩) (v := ?_) rfl (by kernel_rfl) (by kernel_rfl) (by kernel_rfl) (by kernel_rfl) (by kernel_rfl) (by kernel_rfl) (by kernel_rfl) (fun _ _ _ h => h) (Or.inl ⟨by rfl, ?_⟩) hHeld ?_
  rotate_left
  focus (intro w hSw; (try dsimp only at hSw); go_simp; try (with_reducible rfl))
  try simp only [Act.put, List.setIfInBounds_toArray, List.set_cons_zero, List.set_cons_succ]
  clear hHeld
  refine wpAnyL_facts 16 6 3 [(0, 11), (1, 12), (4, 15), (7, 18), (10, 21), (11, 22)] (fun s v w => match s with
    | 11 => ∃ g, v = .slice (some ⟨g, 0, none⟩) 4 4 ∧ w1.drew.heap.size ≤ g ∧ w.shape? g = some (5, 4) ∧ RdB w (some ⟨g, 0, none⟩) mark4
    | 12 => SlB 4 mark4 v w
    | 15 => SlB 8 zt v w
    | 18 => SlB 4 zf v w
    | 21 => SlB 4 zq v w
    | 22 => SlB 12 (List.replicate 12 0) v w
    | _ => True) (Stays w1.drew.heap.size) (by kernel_rfl) (by kernel_rfl) (fun w w' h h' => h.trans h'.1) ⟨?_, ?_, ?_, ?_, ?_, ?_, trivial⟩ (fun W' hB => held3 (W := w1.drew) hbl hc0 hc1 hc2 hB) ⟨?_, ?_, ?_, ?_, ?_, ?_, trivial⟩ ?_
  focus
    intro v w w' h hB
    exact (by obtain ⟨g, e, hg, hs, hr⟩ := h; exact ⟨g, e, hg, (hB.2.2 g (shape_lt hs)).trans hs, hB.rd hr⟩)
  focus
    intro v w w' h hB
    exact h.stays hB
  focus
    intro v w w' h hB
    exact h.stays hB
  focus
    intro v w w' h hB
    exact h.stays hB
  focus
    intro v w w' h hB
    exact h.stays hB
  focus
    intro v w w' h hB
    exact h.stays hB
  focus
    intro vs w2 hBf hFf o ho K hK
    obtain rfl : (⟨some 11, _, _, _, _, _⟩ : Oper) = o := Option.some.inj ho
    clear ho
    (try simp only [fillL, List.foldl_cons, List.foldl_nil, Act.put, List.setIfInBounds_toArray, List.set_cons_zero, List.set_cons_succ] at hK ⊢)
    go_simp
    refine hK.out _ _ ⟨⟨_, rfl, hBf.size, shape_blk (Blk.new w2 (mark4.map (Value.int .u8)) 5), RdB.of_blk (Blk.new w2 (mark4.map (Value.int .u8)) 5)⟩, stays_of ((Below.refl _ _).alloc (Nat.le_refl _) _) hBf.size⟩
  focus
    intro vs w2 hBf hFf o ho K hK
    obtain rfl : (⟨some 12, _, _, _, _, _⟩ : Oper) = o := Option.some.inj ho
    clear ho
    (try simp only [fillL, List.foldl_cons, List.foldl_nil, Act.put, List.setIfInBounds_toArray, List.set_cons_zero, List.set_cons_succ] at hK ⊢)
    obtain ⟨g, e, hg, hs, hr⟩ := (hFf (0, 11) (by simp) (by kernel_rfl))
    have hcv := run_conv_lit (P := Tryz.prog) w2 46 5 g 4 4 4 hs Tryz.underlying46 Tryz.underlying5
    simp only [e] at hK ⊢
    go_simp
    refine hK.out _ _ ⟨⟨_, _, rfl, (Stays.freeze hg).rd hr⟩, Stays.freeze hg⟩
  focus
    intro vs w2 hBf hFf o ho K hK
    obtain rfl : (⟨some 15, _, _, _, _, _⟩ : Oper) = o := Option.some.inj ho
    clear ho
    (try simp only [fillL, List.foldl_cons, List.foldl_nil, Act.put, List.setIfInBounds_toArray, List.set_cons_zero, List.set_cons_succ] at hK ⊢)
    go_simp
    refine (PT.out w2).mono ?_
    rintro e w3 ⟨A, c, rfl, hr, hc, hB3⟩
    refine hK.out _ _ ⟨⟨_, _, rfl, hr⟩, stays_of hB3 hBf.size⟩
  focus
    intro vs w2 hBf hFf o ho K hK
    obtain rfl : (⟨some 18, _, _, _, _, _⟩ : Oper) = o := Option.some.inj ho
    clear ho
    (try simp only [fillL, List.foldl_cons, List.foldl_nil, Act.put, List.setIfInBounds_toArray, List.set_cons_zero, List.set_cons_succ] at hK ⊢)
    go_simp
    refine (PF.out w2).mono ?_
    rintro e w3 ⟨A, c, rfl, hr, hc, hB3⟩
    refine hK.out _ _ ⟨⟨_, _, rfl, hr⟩, stays_of hB3 hBf.size⟩
  focus
    intro vs w2 hBf hFf o ho K hK
    obtain rfl : (⟨some 21, _, _, _, _, _⟩ : Oper) = o := Option.some.inj ho
    clear ho
    (try simp only [fillL, List.foldl_cons, List.foldl_nil, Act.put, List.setIfInBounds_toArray, List.set_cons_zero, List.set_cons_succ] at hK ⊢)
    go_simp
    refine (PO.out w2).mono ?_
    rintro e w3 ⟨A, c, rfl, hr, hc, hB3⟩
    refine hK.out _ _ ⟨⟨_, _, rfl, hr⟩, stays_of hB3 hBf.size⟩
  focus
    intro vs w2 hBf hFf o ho K hK
    obtain rfl : (⟨some 22, _, _, _, _, _⟩ : Oper) = o := Option.some.inj ho
    clear ho
    (try simp only [fillL, List.foldl_cons, List.foldl_nil, Act.put, List.setIfInBounds_toArray, List.set_cons_zero, List.set_cons_succ] at hK ⊢)
    have hm := make12 w2
    go_simp
    refine hK.out _ _ ⟨⟨_, _, rfl, RdB.of_blk (Blk.new w2 ((List.replicate 12 (0 : Int)).map (Value.int .u8)) 5)⟩, stays_of ((Below.refl _ _).alloc (Nat.le_refl _) _) hBf.size⟩
  intro vs w2 hBf hFf
  (try simp only [fillL, List.foldl_cons, List.foldl_nil, Act.put, List.setIfInBounds_toArray, List.set_cons_zero, List.set_cons_succ])
  obtain ⟨A1, c1, e1, hr1⟩ := (hFf (1, 12) (by simp))
  obtain ⟨A2, c2, e2, hr2⟩ := (hFf (4, 15) (by simp))
  obtain ⟨A3, c3, e3, hr3⟩ := (hFf (7, 18) (by simp))
  obtain ⟨A4, c4, e4, hr4⟩ := (hFf (10, 21) (by simp))
  obtain ⟨A5, c5, e5, hr5⟩ := (hFf (11, 22) (by simp))
  simp only [e1, e2, e3, e4, e5]
  refine wpAnyL_last (i := 12) (o := ⟨some 23, _, _, _, _, _⟩) (by kernel_rfl) rfl (by kernel_rfl) (fun K hK => ?_)
  go_simp
  refine hK.out _ _ ?_
  clear hK K
  try simp only [Act.put, List.setIfInBounds_toArray, List.set_cons_zero, List.set_cons_succ]
  refine wpAnyL_last (i := 13) (o := ⟨some 24, _, _, _, _, _⟩) (by kernel_rfl) rfl (by kernel_rfl) (fun K hK => ?_)
  go_simp
  have hB24 : Below w2.heap.size w2 (w2.alloc (.cells #[.slice A1 4 c1, .slice A2 8 c2, .slice A3 4 c3, .slice A4 4 c4, .slice A5 12 c5] 46)) := (Below.refl _ _).alloc (Nat.le_refl _) _
  have hbj : Blk (w2.alloc (.cells #[.slice A1 4 c1, .slice A2 8 c2, .slice A3 4 c3, .slice A4 4 c4, .slice A5 12 c5] 46)) w2.heap.size 46 (([⟨A1, mark4, c1⟩, ⟨A2, zt, c2⟩, ⟨A3, zf, c3⟩, ⟨A4, zq, c4⟩, ⟨A5, List.replicate 12 0, c5⟩] : List Part).map Part.val) := by
    have := Blk.new w2 [Value.slice A1 4 c1, .slice A2 8 c2, .slice A3 4 c3, .slice A4 4 c4, .slice A5 12 c5] 46
    simp only [List.map_cons, List.map_nil, Part.val, lt8.out, lf4.out, lo4.out, List.length_replicate, show mark4.length = 4 from rfl]
    exact this
  refine (HJ.out w2.heap.size _ A1 A2 A3 A4 A5 c1 c2 c3 c4 c5 hbj (fun p hp => ?_)).mono ?_
  focus
    simp only [List.mem_cons, List.not_mem_nil, or_false] at hp
    rcases hp with rfl | rfl | rfl | rfl | rfl
    · exact ⟨hr1.below hB24, by show mark4.length ≤ _; decide⟩
    · exact ⟨hr2.below hB24, by simp only [lt8.out]; omega⟩
    · exact ⟨hr3.below hB24, by simp only [lf4.out]; omega⟩
    · exact ⟨hr4.below hB24, by simp only [lo4.out]; omega⟩
    · exact ⟨hr5.below hB24, by simp⟩
  rintro e w3 ⟨v3, rfl, hown3, hB3⟩
  have hB13 : Below w1.heap.size w1 w3 := ((Below.refl w1.heap.size w1).drew.trans hBf).trans ((hB24.trans (hB3.mono hB24.size)).mono hBf.size)
  have HO3 := Lib.hid hown3
  clear hown3 hbj hr1 hr2 hr3 hr4 hr5 e1 e2 e3 e4 e5
  go_wp2_with fail
  refine hK.out _ _ ?_
  clear hK K
  try simp only [Act.put, List.setIfInBounds_toArray, List.set_cons_zero, List.set_cons_succ]
  refine wpAnyL_last (i := 14) (o := ⟨some 5, _, _, _, _, _⟩) (by kernel_rfl) rfl (by kernel_rfl) (fun K hK => ?_)
  go_simp
  refine hK.out _ _ ?_
  clear hK K
  try simp only [Act.put, List.setIfInBounds_toArray, List.set_cons_zero, List.set_cons_succ]
  refine wpAnyL_done (by kernel_rfl) ?_ _
  refine NoPanic.normal ?_
  obtain ⟨A6, c6, rfl, hc6, hr6⟩ := own_slice HO3.out
  have hB03 : Below w.heap.size w w3 := hB01.trans (hB13.mono hB01.size)
  have HR6 := Lib.hid hr6
  clear hr6 hFf HJ
  go_wp2_with fail
  refine (HOF.out A6 c6 hc6 HHO.out w3 HR6.out).mono ?_
  rintro e w4 ⟨rfl, hB4⟩
  have HR64 := Lib.hid (RdB.below HR6.out hB4)
  have hB04 : Below w.heap.size w w4 := hB03.trans (hB4.mono hB03.size)
  clear HR6 HO3 hB4 HOF
  go_wp2_with fail
  refine (HOC.out w4).mono ?_
  rintro e w5 ⟨A7, c7, rfl, hr7, hc7, hB5⟩
  have HR65 := Lib.hid (HR64.out.below hB5)
  have hB05 : Below w.heap.size w w5 := hB04.trans (hB5.mono hB04.size)
  have HR7 := Lib.hid hr7
  clear HR64 hr7 hB5 HOC
  go_wp2_with fail
  have hB6 : Below w5.heap.size w5 (w5.alloc (.cells #[.slice A6 32 c6, .slice A7 32 c7] 46)) := (Below.refl _ _).alloc (Nat.le_refl _) _
  have hbj : Blk (w5.alloc (.cells #[.slice A6 32 c6, .slice A7 32 c7] 46)) w5.heap.size 46 (([⟨A6, zh, c6⟩, ⟨A7, sumOcts ss, c7⟩] : List Part).map Part.val) := by
    have := Blk.new w5 [Value.slice A6 32 c6, .slice A7 32 c7] 46
    simp only [List.map_cons, List.map_nil, Part.val, HL.out, HSL.out]
    exact this
  refine (join_blk _ 2 w5.heap.size 46 _ zo 64 rfl (by omega) (by rw [HOO.out]; simp [cat]) (by rw [HOO.out, List.length_append, HL.out, HSL.out]) hbj (fun p hp => ?_)).mono ?_
  · simp only [List.mem_cons, List.not_mem_nil, or_false] at hp
    rcases hp with rfl | rfl
    · exact ⟨HR65.out.below hB6, by simp only [HL.out]; omega⟩
    · exact ⟨HR7.out.below hB6, by simp only [HSL.out]; omega⟩
  rintro e w7 ⟨v7, rfl, hown7, hB7⟩
  have hB07 : Below w.heap.size w w7 := (hB05.trans (hB6.mono hB05.size)).trans (hB7.mono (Nat.le_trans hB05.size hB6.size))
  have HO7 := Lib.hid (own_below hown7 (Below.refl _ _) (Nat.le_trans hB05.size hB6.size))
  clear hown7 hbj HR65 HR7 hB7
  go_wp2_with fail
  go_ret2
  exact ⟨v7, rfl, HO7.out, hB07⟩

set_option maxHeartbeats 1000000 in
theorem encode_no (u : Ub) (hu : u.ok = false) (w : World) :
    Calls Tryz.prog 82 #[u.val] w fun e w' => e = .returned (.tuple #[.slice none 0 0, .int .i64 4]) ∧ Below w.heap.size w w' := by
  have hck := uberCheck_any u
  rw [Ub.err_no hu] at hck
  have HCK := Lib.hid hck
  have hB0 : Below w.heap.size w (w.alloc (.cells #[.int .i64 u.t, .int .i64 u.f, .int .i64 u.o] 29)) := (Below.refl _ w).alloc (Nat.le_refl _) _
  clear hck hu
  go_enter Tryz.func82, Tryz.ntmps82
  go_wp2_with (refine (HCK.out _).mono ?_; rintro e w1 ⟨rfl, hB1⟩)
  go_ret2
  exact ⟨rfl, hB0.trans (hB1.mono hB0.size)⟩

end Go.Proofs.YtfeeejigedndcaaGreat

namespace Go.Proofs.YtfeeejigedndcaaGreat
open Go.ChangeShapes Go.WideShapes Go.ChangeAt Go.RowKit
set_option maxRecDepth 100000

theorem numO_no {zs : List Int} (h : (numO zs).2 ≠ 0) : (numO zs).1 = 0 := by
  unfold numO at h ⊢
  split at h
  · rename_i hc; rw [if_pos hc]
  · exact absurd rfl h
/-- What a sector tells, in another way. -/
theorem ubOf_if {zs : List Int} (hl : zs.length = 64) : ubOf zs = if (ubRead zs).ok = true ∧ zs = (ubRead zs).octs then (ubRead zs, 0) else (ub0, 21) := by
  unfold ubOf
  by_cases h : (ubRead zs).ok = true ∧ zs = (ubRead zs).octs
  · have h2 : (numO ((zs.drop 4).take 8)).2 = 0 := by
      by_cases h0 : (numO ((zs.drop 4).take 8)).2 = 0
      · exact h0
      · have := (Ub.ok_iff.1 h.1).1
        have h1 : (ubRead zs).t = 0 := numO_no h0
        omega
    rw [if_pos h, if_pos ⟨hl, h2, h.1, h.2.symm⟩]
  · rw [if_neg h, if_neg fun hh => h ⟨hh.2.2.1, hh.2.2.2.symm⟩]

abbrev ansU (x : Ub × Int) : Value := .tuple #[x.1.val, .int .i64 x.2]

set_option maxHeartbeats 2000000 in
set_option maxRecDepth 100000 in
theorem decode_any (A : Option Addr) (n c : Nat) (zs : List Int) (hn : zs.length = n) (hc : n ≤ c) (hl : n ≤ maxLen) (ho : Octs zs) (w : World) (hr : RdB w A zs) :
    Calls Tryz.prog 107 #[.slice A n c] w fun e w' => e = .returned (ansU (ubOf zs)) ∧ Below w.heap.size w w' := by
  unfold maxLen at hl
  by_cases h64 : n = 64
  · subst h64
    have hi := ubOf_if hn
    have hz := ho
    obtain ⟨b, off, rfl, hb, _⟩ := RdB.cell hr (k := 0) (by omega)
    have N1 := Lib.hid (number8_any (some ⟨b, off + 4, none⟩) 8 (c - 4) ((zs.drop 4).take 8) (by simp; omega) (by omega) (by omega) ((ho.dp 4).tk 8))
    have N2 := Lib.hid (number8_any (some ⟨b, off + 12, none⟩) 4 (c - 12) ((zs.drop 12).take 4) (by simp; omega) (by omega) (by omega) ((ho.dp 12).tk 4))
    have N3 := Lib.hid (number8_any (some ⟨b, off + 16, none⟩) 4 (c - 16) ((zs.drop 16).take 4) (by simp; omega) (by omega) (by omega) ((ho.dp 16).tk 4))
    rw [numO_four ((ho.dp 12).tk 4) (by simp; omega)] at N2
    rw [numO_four ((ho.dp 16).tk 4) (by simp; omega)] at N3
    have R1 := Lib.hid fun (W : World) h => rd_mid (w := W) (zs := zs) (b := b) (off := off) h 4 8
    have R2 := Lib.hid fun (W : World) h => rd_mid (w := W) (zs := zs) (b := b) (off := off) h 12 4
    have R3 := Lib.hid fun (W : World) h => rd_mid (w := W) (zs := zs) (b := b) (off := off) h 16 4
    generalize hx1 : (zs.drop 4).take 8 = x1 at N1 R1
    generalize hx2 : (zs.drop 12).take 4 = x2 at N2 R2
    generalize hx3 : (zs.drop 16).take 4 = x3 at N3 R3
    have hu : ubRead zs = ⟨(numO x1).1, val x2, val x3⟩ := by unfold ubRead; rw [hx1, hx2, hx3]
    clear hx1 hx2 hx3
    rw [hu] at hi
    generalize (numO x1).1 = t at *
    generalize val x2 = f at *
    generalize val x3 = o at *
    have EQ := Lib.hid fun B d (ys : List Int) (hm : ys.length = 64) (hp : Octs ys) => equal_any (some ⟨b, off, none⟩) 64 c zs hn ho B 64 d ys hm hp
    have HZ := Lib.hid ho
    have HN := Lib.hid hn
    have HI := Lib.hid hi
    have HR := Lib.hid hr
    generalize ubOf zs = r at HI ⊢
    have hu0 : Hid (ubRead zs = ⟨t, f, o⟩) := hu
    clear hi hu hz hr hn ho
    have c1 : (12 : Int) ≤ c := by omega
    have c2 : (16 : Int) ≤ c := by omega
    have c3 : (20 : Int) ≤ c := by omega
    have c4 : ¬ c = 4 := by omega
    have c5 : ¬ c = 12 := by omega
    have c6 : ¬ c = 16 := by omega
    go_enter Tryz.func107, Tryz.ntmps107
    go_wp2_with fail
    obtain ⟨w1, hw1⟩ : ∃ w1, w.alloc (.cells #[.int .i64 0, .int .i64 0, .int .i64 0] 29) = w1 := ⟨_, rfl⟩
    have hB1 : Below w.heap.size w w1 := hw1 ▸ (Below.refl _ w).alloc (Nat.le_refl _) _
    have kr : Blk w1 w.heap.size 29 ub0.cells := hw1 ▸ Blk.new w ub0.cells 29
    rw [hw1]
    have HKR := Lib.hid kr
    have HR1 := Lib.hid (HR.out.below hB1)
    have hlt1 := kr.lt
    clear hw1 kr
    refine wp_region_noPanic ?_
    refine wp_region_last 11 (fun _ => True) (by kernel_rfl) trivial (fun hHeld => ?_)
    refine wpAnyL_take 16 (i := 0) (oi := ⟨some 11, _, _, _, _, _⟩) (v := ?_) rfl (by kernel_rfl) (by kernel_rfl) (by kernel_rfl) (by kernel_rfl) (by kernel_rfl) (by kernel_rfl) (by kernel_rfl) (fun _ _ _ h => h) (Or.inl ⟨by rfl, ?_⟩) hHeld ?_
    rotate_left
    focus (intro w hSw; (try dsimp only at hSw); go_simp; try (with_reducible rfl))
    try simp only [Act.put, List.setIfInBounds_toArray, List.set_cons_zero, List.set_cons_succ]
    refine wpAnyL_take 16 (i := 1) (oi := ⟨some 12, _, _, _, _, _⟩) (v := ?_) rfl (by kernel_rfl) (by kernel_rfl) (by kernel_rfl) (by kernel_rfl) (by kernel_rfl) (by kernel_rfl) (by kernel_rfl) (fun _ _ _ h => h) (Or.inl ⟨by rfl, ?_⟩) hHeld ?_
    rotate_left
    focus (intro w hSw; (try dsimp only at hSw); go_simp; try (with_reducible rfl))
    try simp only [Act.put, List.setIfInBounds_toArray, List.set_cons_zero, List.set_cons_succ]
    refine wpAnyL_take 16 (i := 3) (oi := ⟨some 14, _, _, _, _, _⟩) (v := ?_) rfl (by kernel_rfl) (by kernel_rfl) (by kernel_rfl) (by kernel_rfl) (by kernel_rfl) (by kernel_rfl) (by kernel_rfl) (fun _ _ _ h => h) (Or.inl ⟨by rfl, ?_⟩) hHeld ?_
    rotate_left
    focus (intro w hSw; (try dsimp only at hSw); go_simp; try (with_reducible rfl))
    try simp only [Act.put, List.setIfInBounds_toArray, List.set_cons_zero, List.set_cons_succ]
    refine wpAnyL_take 16 (i := 4) (oi := ⟨some 15, _, _, _, _, _⟩) (v := ?_) rfl (by kernel_rfl) (by kernel_rfl) (by kernel_rfl) (by kernel_rfl) (by kernel_rfl) (by kernel_rfl) (by kernel_rfl) (fun _ _ _ h => h) (Or.inl ⟨by rfl, ?_⟩) hHeld ?_
    rotate_left
    focus (intro w hSw; (try dsimp only at hSw); go_simp; try (with_reducible rfl))
    try simp only [Act.put, List.setIfInBounds_toArray, List.set_cons_zero, List.set_cons_succ]
    refine wpAnyL_take 16 (i := 6) (oi := ⟨some 17, _, _, _, _, _⟩) (v := ?_) rfl (by kernel_rfl) (by kernel_rfl) (by kernel_rfl) (by kernel_rfl) (by kernel_rfl) (by kernel_rfl) (by kernel_rfl) (fun _ _ _ h => h) (Or.inl ⟨by rfl, ?_⟩) hHeld ?_
    rotate_left
    focus (intro w hSw; (try dsimp only at hSw); go_simp; try (with_reducible rfl))
    try simp only [Act.put, List.setIfInBounds_toArray, List.set_cons_zero, List.set_cons_succ]
    refine wpAnyL_take 16 (i := 7) (oi := ⟨some 18, _, _, _, _, _⟩) (v := ?_) rfl (by kernel_rfl) (by kernel_rfl) (by kernel_rfl) (by kernel_rfl) (by kernel_rfl) (by kernel_rfl) (by kernel_rfl) (fun _ _ _ h => h) (Or.inl ⟨by rfl, ?_⟩) hHeld ?_
    rotate_left
    focus (intro w hSw; (try dsimp only at hSw); go_simp; try (with_reducible rfl))
    try simp only [Act.put, List.setIfInBounds_toArray, List.set_cons_zero, List.set_cons_succ]
    clear hHeld
    refine wpAnyL_facts 16 5 1 [(2, 13), (5, 16), (8, 19), (9, 20), (10, 4)] (fun s v w => match s with
      | 13 => v = .int .i64 t
      | 16 => v = .int .i64 f
      | 19 => v = .int .i64 o
      | 20 => v = .agg #[.int .i64 t, .int .i64 f, .int .i64 o]
      | 4 => ∃ X, v = .pointer (some ⟨X, 0, none⟩) ∧ w1.heap.size ≤ X ∧ Blk w X 29 ub0.cells
      | _ => True) (fun w w' => Below w.heap.size w w') (by kernel_rfl) (by kernel_rfl) (fun w w' h h' => h.trans (h'.mono h.size)) ⟨?_, ?_, ?_, ?_, ?_, trivial⟩ (fun _ _ => trivial) ⟨?_, ?_, ?_, ?_, ?_, trivial⟩ ?_
    focus
      intro v w w' h hB
      exact h
    focus
      intro v w w' h hB
      exact h
    focus
      intro v w w' h hB
      exact h
    focus
      intro v w w' h hB
      exact h
    focus
      intro v w w' h hB
      exact (by obtain ⟨X, e, hX, hb⟩ := h; exact ⟨X, e, hX, hb.below hB hb.lt⟩)
    focus
      intro vs w2 hBf hFf o ho K hK
      obtain rfl : (⟨some 13, _, _, _, _, _⟩ : Oper) = o := Option.some.inj ho
      clear ho
      (try simp only [fillL, List.foldl_cons, List.foldl_nil, Act.put, List.setIfInBounds_toArray, List.set_cons_zero, List.set_cons_succ] at hK ⊢)
      go_simp
      refine (N1.out w2 (R1.out w2 (RdB.below HR1.out ((Below.refl _ _).drew.trans hBf)))).mono ?_
      rintro e w3 ⟨rfl, rfl⟩
      refine hK.out _ _ ⟨rfl, Below.refl _ _⟩
    focus
      intro vs w2 hBf hFf o ho K hK
      obtain rfl : (⟨some 16, _, _, _, _, _⟩ : Oper) = o := Option.some.inj ho
      clear ho
      (try simp only [fillL, List.foldl_cons, List.foldl_nil, Act.put, List.setIfInBounds_toArray, List.set_cons_zero, List.set_cons_succ] at hK ⊢)
      go_simp
      refine (N2.out w2 (R2.out w2 (RdB.below HR1.out ((Below.refl _ _).drew.trans hBf)))).mono ?_
      rintro e w3 ⟨rfl, rfl⟩
      refine hK.out _ _ ⟨rfl, Below.refl _ _⟩
    focus
      intro vs w2 hBf hFf o ho K hK
      obtain rfl : (⟨some 19, _, _, _, _, _⟩ : Oper) = o := Option.some.inj ho
      clear ho
      (try simp only [fillL, List.foldl_cons, List.foldl_nil, Act.put, List.setIfInBounds_toArray, List.set_cons_zero, List.set_cons_succ] at hK ⊢)
      go_simp
      refine (N3.out w2 (R3.out w2 (RdB.below HR1.out ((Below.refl _ _).drew.trans hBf)))).mono ?_
      rintro e w3 ⟨rfl, rfl⟩
      refine hK.out _ _ ⟨rfl, Below.refl _ _⟩
    focus
      intro vs w2 hBf hFf o ho K hK
      obtain rfl : (⟨some 20, _, _, _, _, _⟩ : Oper) = o := Option.some.inj ho
      clear ho
      (try simp only [fillL, List.foldl_cons, List.foldl_nil, Act.put, List.setIfInBounds_toArray, List.set_cons_zero, List.set_cons_succ] at hK ⊢)
      have e1 : vs 13 = .int .i64 t := (hFf (2, 13) (by simp) (by kernel_rfl))
      have e2 : vs 16 = .int .i64 f := (hFf (5, 16) (by simp) (by kernel_rfl))
      have e3 : vs 19 = .int .i64 o := (hFf (8, 19) (by simp) (by kernel_rfl))
      simp only [e1, e2, e3] at hK ⊢
      go_simp
      refine hK.out _ _ ⟨rfl, Below.refl _ _⟩
    focus
      intro vs w2 hBf hFf o ho K hK
      obtain rfl : (⟨some 4, _, _, _, _, _⟩ : Oper) = o := Option.some.inj ho
      clear ho
      (try simp only [fillL, List.foldl_cons, List.foldl_nil, Act.put, List.setIfInBounds_toArray, List.set_cons_zero, List.set_cons_succ] at hK ⊢)
      go_simp
      refine hK.out _ _ ⟨⟨_, rfl, hBf.size, Blk.new w2 ub0.cells 29⟩, (Below.refl _ _).alloc (Nat.le_refl _) _⟩
    intro vs w2 hBf hFf
    (try simp only [fillL, List.foldl_cons, List.foldl_nil, Act.put, List.setIfInBounds_toArray, List.set_cons_zero, List.set_cons_succ])
    have e1 : vs 20 = .agg #[.int .i64 t, .int .i64 f, .int .i64 o] := (hFf (9, 20) (by simp))
    obtain ⟨X, e4, hX, hKX⟩ := (hFf (10, 4) (by simp))
    simp only [e1, e4]
    have x0 := hKX.cell 0
    have x1 := hKX.cell 1
    have x2 := hKX.cell 2
    have q0 := hKX.frozen 0
    have q1 := hKX.frozen 1
    have q2 := hKX.frozen 2
    simp only [Ub.cells, ub0, List.getElem?_cons_zero, List.getElem?_cons_succ] at x0 x1 x2
    refine wpAnyL_last (i := 11) (o := ⟨none, _, _, _, _, _⟩) (by kernel_rfl) rfl (by kernel_rfl) (fun K hK => ?_)
    go_simp
    refine hK.out _ _ ?_
    clear hK K
    try simp only [Act.put, List.setIfInBounds_toArray, List.set_cons_zero, List.set_cons_succ]
    refine wpAnyL_done (by kernel_rfl) ?_ _
    refine NoPanic.normal ?_
    go_wp2_with fail
    obtain ⟨w3, hw3⟩ : ∃ w3, ((w2.setCell ⟨X, 0, none⟩ (.int .i64 t)).setCell ⟨X, 1, none⟩ (.int .i64 f)).setCell ⟨X, 2, none⟩ (.int .i64 o) = w3 := ⟨_, rfl⟩
    have kx : Blk w3 X 29 [.int .i64 t, .int .i64 f, .int .i64 o] := hw3 ▸ ((hKX.set 0 (.int .i64 t)).set 1 (.int .i64 f)).set 2 (.int .i64 o)
    have hB13 : Below w1.heap.size w1 w3 := hw3 ▸ ((((Below.refl w1.heap.size w1).drew.trans hBf).setCell (p := ⟨X, 0, none⟩) hX _).setCell (p := ⟨X, 1, none⟩) hX _).setCell (p := ⟨X, 2, none⟩) hX _
    rw [hw3]
    have hB3 : Below w.heap.size w w3 := hB1.trans (hB13.mono hB1.size)
    have HKX3 := Lib.hid kx
    have HKR3 := Lib.hid (HKR.out.below hB13 hlt1)
    have HRZ3 := Lib.hid (HR.out.below hB3)
    have hne : w.heap.size < X := Nat.lt_of_lt_of_le hlt1 hX
    clear x0 x1 x2 q0 q1 q2
    clear hw3 kx hKX hFf e1 e4 hBf HKR N1 N2 N3 R1 R2 R3
    by_cases hok : (Ub.mk t f o).ok = true
    · refine (encode_ok ⟨t, f, o⟩ hok w3).mono ?_
      rintro e w4 ⟨v, rfl, hown, hB4⟩
      obtain ⟨B, d, rfl, hd, hrv⟩ := own_slice hown
      have HKX4 := HKX3.out.below hB4 HKX3.out.lt
      have HKR4 := HKR3.out.below hB4 HKR3.out.lt
      have HRZ4 := Lib.hid (HRZ3.out.below hB4)
      have hB04 : Below w.heap.size w w4 := hB3.trans (hB4.mono hB3.size)
      have HEQ := Lib.hid (EQ.out B d (Ub.mk t f o).octs (Ub.octs_length _) (Ub.octs_octs _) w4 HRZ4.out hrv)
      have hi := HI.out
      simp only [hok, true_and] at hi
      have x0 := HKX4.cell 0
      have x1 := HKX4.cell 1
      have x2 := HKX4.cell 2
      have z0 := HKR4.cell 0
      have z1 := HKR4.cell 1
      have z2 := HKR4.cell 2
      have y0 := HKR4.frozen 0
      have y1 := HKR4.frozen 1
      have y2 := HKR4.frozen 2
      simp only [Ub.cells, ub0, List.getElem?_cons_zero, List.getElem?_cons_succ] at x0 x1 x2 z0 z1 z2
      have hlt4 := HKR4.lt
      clear hown hd hrv HI EQ HKX3 HKR3 HRZ3 HKX4
      by_cases he : zs = (Ub.mk t f o).octs
      · rw [if_pos he] at hi
        rw [decide_eq_true he] at HEQ
        subst hi
        clear he
        go_wp2_with (refine HEQ.out.mono ?_; rintro e w5 ⟨rfl, rfl⟩)
        refine bodyPost_ret (v := ansU (⟨t, f, o⟩, 0)) (by simp [results, Tryz.results107, go_sem, z0, z1, z2]) rfl ⟨rfl, ?_⟩
        exact ((hB04.setCell (p := ⟨w.heap.size, 0, none⟩) (Nat.le_refl _) _).setCell (p := ⟨w.heap.size, 1, none⟩) (Nat.le_refl _) _).setCell (p := ⟨w.heap.size, 2, none⟩) (Nat.le_refl _) _
      · rw [if_neg he] at hi
        rw [decide_eq_false he] at HEQ
        subst hi
        clear he
        go_wp2_with (refine HEQ.out.mono ?_; rintro e w5 ⟨rfl, rfl⟩)
        refine bodyPost_ret (v := ansU (ub0, 21)) (by simp [results, Tryz.results107, go_sem, z0, z1, z2, ub0]) rfl ⟨rfl, ?_⟩
        exact ((hB04.setCell (p := ⟨w.heap.size, 0, none⟩) (Nat.le_refl _) _).setCell (p := ⟨w.heap.size, 1, none⟩) (Nat.le_refl _) _).setCell (p := ⟨w.heap.size, 2, none⟩) (Nat.le_refl _) _
    · refine (encode_no ⟨t, f, o⟩ (by simpa using hok) w3).mono ?_
      rintro e w4 ⟨rfl, hB4⟩
      have HKR4 := HKR3.out.below hB4 HKR3.out.lt
      have hB04 : Below w.heap.size w w4 := hB3.trans (hB4.mono hB3.size)
      have hi := HI.out
      rw [if_neg fun h => hok h.1] at hi
      subst hi
      have z0 := HKR4.cell 0
      have z1 := HKR4.cell 1
      have z2 := HKR4.cell 2
      have y0 := HKR4.frozen 0
      have y1 := HKR4.frozen 1
      have y2 := HKR4.frozen 2
      simp only [Ub.cells, ub0, List.getElem?_cons_zero, List.getElem?_cons_succ] at z0 z1 z2
      clear HI EQ HKX3 HKR3 HRZ3
      go_wp2_with fail
      refine bodyPost_ret (v := ansU (ub0, 21)) (by simp [results, Tryz.results107, go_sem, z0, z1, z2, ub0]) rfl ⟨rfl, ?_⟩
      exact ((hB04.setCell (p := ⟨w.heap.size, 0, none⟩) (Nat.le_refl _) _).setCell (p := ⟨w.heap.size, 1, none⟩) (Nat.le_refl _) _).setCell (p := ⟨w.heap.size, 2, none⟩) (Nat.le_refl _) _
  · have hr0 : ubOf zs = (ub0, 21) := by unfold ubOf; rw [if_neg fun h => h64 (hn ▸ h.1)]
    rw [hr0]
    clear hr0 hr ho hn
    have hne : ((n : Int) == 64) = false := beq_eq_false_iff_ne.2 (by omega)
    go_enter Tryz.func107, Tryz.ntmps107
    go_wp2
    refine bodyPost_ret (v := ansU (ub0, 21)) (by simp [results, Tryz.results107, go_sem, ub0]) rfl ⟨rfl, ?_⟩
    exact (Below.refl _ w).alloc (Nat.le_refl _) _

end Go.Proofs.YtfeeejigedndcaaGreat

namespace Go.Proofs.YtfeeejigedndcaaGreat
open Go.ChangeShapes Go.WideShapes Go.ChangeAt Go.RowKit
set_option maxRecDepth 100000

/-- Behind one more sector. -/
def ubUpd (s x : Ub × Int) (p : Int) : Ub × Int := if x.2 = 0 ∧ s.1.t < x.1.t then (x.1, p) else s
def ubSt (x y : Ub × Int) : Nat → Ub × Int
  | 0 => (ub0, 0)
  | 1 => ubUpd (ub0, 0) x 0
  | _ => ubUpd (ubUpd (ub0, 0) x 0) y 1
/-- The newest of two. -/
def ubNew (x y : Ub × Int) : Ub × Int × Int := if (ubSt x y 2).1.t = 0 then (ub0, 0, 21) else ((ubSt x y 2).1, (ubSt x y 2).2, 0)
abbrev ansN3 (r : Ub × Int × Int) : Value := .tuple #[r.1.val, .int .i64 r.2.1, .int .i64 r.2.2]

def pick2 {α : Type} (a b : α) : Nat → α
  | 0 => a
  | _ => b

set_option maxHeartbeats 2000000 in
set_option maxRecDepth 100000 in
theorem newest_any (a b : Slc) (g : Nat) (w : World) (t : TypeId) (hb : Blk w g t [a.val, b.val]) (ha' : a.ok w) (hb' : b.ok w) :
    Calls Tryz.prog 84 #[.slice (some ⟨g, 0, none⟩) 2 2] w fun e w' => e = .returned (ansN3 (ubNew (ubOf a.zs) (ubOf b.zs))) ∧ Below w.heap.size w w' := by
  have hcell : ∀ k, k < 2 → w.cell? ⟨g, k, none⟩ = some (pick2 a b k).val := fun k hk => by
    have := hb.cell k
    rcases k with _ | _ | k
    · exact this
    · exact this
    · omega
  have hok : ∀ k, (pick2 a b k).ok w := fun k => by rcases k with _ | k <;> assumption
  have hst : ∀ k, k < 2 → ubSt (ubOf a.zs) (ubOf b.zs) (k + 1) = ubUpd (ubSt (ubOf a.zs) (ubOf b.zs) k) (ubOf (pick2 a b k).zs) k := fun k hk => by
    rcases k with _ | _ | k
    · rfl
    · rfl
    · omega
  have hd : ∀ (s : Slc) (w : World), s.ok w → Calls Tryz.prog 107 #[s.val] w fun e w' => e = .returned (ansU (ubOf s.zs)) ∧ Below w.heap.size w w' := fun s w h => decode_any s.A s.zs.length s.c s.zs rfl h.1 h.2.1 h.2.2.1 w h.2.2.2
  have HD := Lib.hid hd
  have HC := Lib.hid hcell
  have HOK := Lib.hid hok
  have hlg := hb.lt
  have HST := Lib.hid hst
  obtain ⟨st, hst0⟩ : ∃ st, ubSt (ubOf a.zs) (ubOf b.zs) = st := ⟨_, rfl⟩
  have h0 : st 0 = (ub0, 0) := by rw [← hst0]; rfl
  have hnew : ubNew (ubOf a.zs) (ubOf b.zs) = if (st 2).1.t = 0 then (ub0, 0, 21) else ((st 2).1, (st 2).2, 0) := by rw [← hst0]; rfl
  rw [hst0] at HST
  have HNEW := Lib.hid hnew
  generalize ubNew (ubOf a.zs) (ubOf b.zs) = r at HNEW ⊢
  generalize pick2 a b = sl at *
  clear hb ha' hb' hd hcell hok hst hst0 hnew
  clear a b
  go_enter Tryz.func84, Tryz.ntmps84
  go_wp2_with fail
  go_loopw [6, 13] (fun at_ i wr => ∃ k : Nat, k ≤ 2 ∧ i = .int .i64 k ∧ at_ = .int .i64 (st k).2 ∧ Hid (Blk wr (w.heap.size + 1) 29 (st k).1.cells) ∧ Hid (Blk wr w.heap.size 29 ub0.cells) ∧ Below w.heap.size w wr) (fun _ i _ => 2 - (intOf i).toNat)
  case atStart =>
    refine ⟨0, by omega, rfl, by rw [h0], ?_, ?_, ((Below.refl _ w).alloc (Nat.le_refl _) _).alloc (by simp) _⟩
    · rw [h0]
      have := Blk.new (w.alloc (.cells #[.int .i64 0, .int .i64 0, .int .i64 0] 29)) ub0.cells 29
      rw [World.size_alloc] at this
      exact this
    · exact (Blk.new w ub0.cells 29).alloc _
  case round =>
    obtain ⟨k, hk, rfl, rfl, HX, HR, hB⟩ := hrel
    by_cases hlt : k < 2
    · have hck := (hB.cell (p := ⟨g, k, none⟩) hlg).trans (HC.out k hlt)
      have HOKk := Lib.hid ((HOK.out k).below hB)
      have hsk := HST.out k hlt
      generalize sl k = s at *
      have HSK := Lib.hid hsk
      clear hsk
      have hlx := HX.out.lt
      have hs := hB.size
      go_wp2_with fail
      refine (HD.out s wr HOKk.out).mono ?_
      rintro e w4 ⟨rfl, hB4⟩
      have HX4 := Lib.hid (HX.out.below hB4 HX.out.lt)
      have HR4 := Lib.hid (HR.out.below hB4 HR.out.lt)
      have hB04 : Below w.heap.size w w4 := hB.trans (hB4.mono hB.size)
      have hlx4 := HX4.out.lt
      have hl4 := HR4.out.lt
      have hs4 := hB04.size
      generalize ubOf s.zs = xx at *
      clear HX HR hB4
      clear hB
      rcases hS : st k with ⟨⟨t0, f0, o0⟩, p0⟩
      rw [hS] at HSK HX4
      obtain ⟨⟨t, f, o⟩, ee⟩ := xx
      have y0 := HX4.out.cell 0
      have y1 := HX4.out.cell 1
      have y2 := HX4.out.cell 2
      have q0 := HX4.out.frozen 0
      have q1 := HX4.out.frozen 1
      have q2 := HX4.out.frozen 2
      simp only [Ub.cells, List.getElem?_cons_zero, List.getElem?_cons_succ] at y0 y1 y2
      have HXA := Lib.hid (HX4.out.alloc (.cells #[.int .i64 t, .int .i64 f, .int .i64 o] 29))
      have HRA := Lib.hid (HR4.out.alloc (.cells #[.int .i64 t, .int .i64 f, .int .i64 o] 29))
      have hBA : Below w.heap.size w (w4.alloc (.cells #[.int .i64 t, .int .i64 f, .int .i64 o] 29)) := hB04.alloc hs4 _
      have hneX : w.heap.size ≠ w.heap.size + 1 := by omega
      clear hS
      unfold ubUpd at HSK
      dsimp only at HSK
      by_cases he : ee = 0
      · subst he
        by_cases ht : t0 < t
        · rw [if_pos ⟨rfl, ht⟩] at HSK
          go_wp2
          go_roundw
          case rel =>
            refine ⟨k + 1, by omega, by go_num, by rw [HSK.out], ?_, ?_, ?_⟩
            · rw [HSK.out]
              exact (((HX4.out.set 0 (.int .i64 t)).set 1 (.int .i64 f)).set 2 (.int .i64 o)).alloc _
            · exact ((((HR4.out.other hneX 0 (.int .i64 t)).other hneX 1 (.int .i64 f)).other hneX 2 (.int .i64 o))).alloc _
            · exact (((hB04.setCell (p := ⟨w.heap.size + 1, 0, none⟩) (by simp) _).setCell (p := ⟨w.heap.size + 1, 1, none⟩) (by simp) _).setCell (p := ⟨w.heap.size + 1, 2, none⟩) (by simp) _).alloc (by simp; omega) _
          case measure => simp [intOf]; omega
        · rw [if_neg fun h => ht h.2] at HSK
          go_wp2
          go_roundw
          case rel =>
            refine ⟨k + 1, by omega, by go_num, by rw [HSK.out], ?_, HRA, hBA⟩
            rw [HSK.out]
            exact HXA
          case measure => simp [intOf]; omega
      · rw [if_neg fun h => he h.1] at HSK
        have hee : (ee == 0) = false := beq_eq_false_iff_ne.2 he
        go_wp2
        go_roundw
        case rel =>
          refine ⟨k + 1, by omega, by go_num, by rw [HSK.out], ?_, HRA, hBA⟩
          rw [HSK.out]
          exact HXA
        case measure => simp [intOf]; omega
    · obtain rfl : k = 2 := by omega
      have hn := HNEW.out
      have hlx := HX.out.lt
      have hl4 := HR.out.lt
      rcases hS : st 2 with ⟨⟨t0, f0, o0⟩, p0⟩
      rw [hS] at HX hn
      dsimp only at hn
      have y0 := HX.out.cell 0
      have y1 := HX.out.cell 1
      have y2 := HX.out.cell 2
      have z0 := HR.out.cell 0
      have z1 := HR.out.cell 1
      have z2 := HR.out.cell 2
      have q0 := HR.out.frozen 0
      have q1 := HR.out.frozen 1
      have q2 := HR.out.frozen 2
      simp only [Ub.cells, ub0, List.getElem?_cons_zero, List.getElem?_cons_succ] at y0 y1 y2 z0 z1 z2
      clear HX HR HNEW HST HC HD HOK
      clear hS
      by_cases ht : t0 = 0
      · rw [if_pos ht] at hn
        subst ht hn
        go_wp2
        refine bodyPost_ret (v := ansN3 (ub0, 0, 21)) (by simp [results, Tryz.results84, go_sem, z0, z1, z2, ub0]) rfl ⟨rfl, ?_⟩
        exact ((hB.setCell (p := ⟨w.heap.size, 0, none⟩) (Nat.le_refl _) _).setCell (p := ⟨w.heap.size, 1, none⟩) (Nat.le_refl _) _).setCell (p := ⟨w.heap.size, 2, none⟩) (Nat.le_refl _) _
      · rw [if_neg ht] at hn
        subst hn
        have htt : (t0 == 0) = false := beq_eq_false_iff_ne.2 ht
        go_wp2
        refine bodyPost_ret (v := ansN3 (⟨t0, f0, o0⟩, p0, 0)) (by simp [results, Tryz.results84, go_sem, z0, z1, z2]) rfl ⟨rfl, ?_⟩
        exact ((hB.setCell (p := ⟨w.heap.size, 0, none⟩) (Nat.le_refl _) _).setCell (p := ⟨w.heap.size, 1, none⟩) (Nat.le_refl _) _).setCell (p := ⟨w.heap.size, 2, none⟩) (Nat.le_refl _) _

set_option maxHeartbeats 1000000 in
theorem newestU_any (a b : Slc) (w : World) (ha' : a.ok w) (hb' : b.ok w) :
    Calls Tryz.prog 59 #[a.val, b.val] w fun e w' => e = .returned (ansN3 (ubNew (ubOf a.zs) (ubOf b.zs))) ∧ Below w.heap.size w w' := by
  obtain ⟨w1, hw1⟩ : ∃ w1, w.alloc (.cells #[.int .i64 0, .int .i64 0, .int .i64 0] 29) = w1 := ⟨_, rfl⟩
  have hB1 : Below w.heap.size w w1 := hw1 ▸ (Below.refl _ w).alloc (Nat.le_refl _) _
  have kr : Blk w1 w.heap.size 29 ub0.cells := hw1 ▸ Blk.new w ub0.cells 29
  have hB12 : Below w1.heap.size w1 (w1.alloc (.cells #[a.val, b.val] 46)) := (Below.refl _ _).alloc (Nat.le_refl _) _
  have hc := newest_any a b w1.heap.size (w1.alloc (.cells #[a.val, b.val] 46)) 46 (Blk.new w1 [a.val, b.val] _) ((ha'.below hB1).below hB12) ((hb'.below hB1).below hB12)
  have HC := Lib.hid hc
  have HKR := Lib.hid (kr.below hB12 kr.lt)
  have hB2 : Below w.heap.size w (w1.alloc (.cells #[a.val, b.val] 46)) := hB1.trans (hB12.mono hB1.size)
  generalize ubNew (ubOf a.zs) (ubOf b.zs) = r at HC ⊢
  obtain ⟨⟨t, f, o⟩, p, ee⟩ := r
  clear hc ha' hb' kr
  go_enter Tryz.func59, Tryz.ntmps59
  go_wp2_with fail
  refine HC.out.mono ?_
  rintro e w3 ⟨rfl, hB3⟩
  have k3 := HKR.out.below hB3 HKR.out.lt
  have hB03 : Below w.heap.size w w3 := hB2.trans (hB3.mono hB2.size)
  have z0 := k3.cell 0
  have z1 := k3.cell 1
  have z2 := k3.cell 2
  have q0 := k3.frozen 0
  have q1 := k3.frozen 1
  have q2 := k3.frozen 2
  simp only [Ub.cells, ub0, List.getElem?_cons_zero, List.getElem?_cons_succ] at z0 z1 z2
  clear k3 HKR HC hw1
  go_wp2_with fail
  refine bodyPost_ret (v := ansN3 (⟨t, f, o⟩, p, ee)) (by simp [results, Tryz.results59, go_sem, z0, z1, z2]) rfl ⟨rfl, ?_⟩
  exact ((hB03.setCell (p := ⟨w.heap.size, 0, none⟩) (Nat.le_refl _) _).setCell (p := ⟨w.heap.size, 1, none⟩) (Nat.le_refl _) _).setCell (p := ⟨w.heap.size, 2, none⟩) (Nat.le_refl _) _

end Go.Proofs.YtfeeejigedndcaaGreat

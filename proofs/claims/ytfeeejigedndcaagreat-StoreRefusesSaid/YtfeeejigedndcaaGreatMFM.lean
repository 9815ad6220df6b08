/-
  The plain mathematics of running sums: words of octets, sums over words. No conditions.
-/
import Derived.Test.YtfeeejigedndcaaGreatMW
import Derived.Laws.BitsAllLaws
import Derived.Laws.CopyOwn
import Derived.Lib.Hide
import Derived.IntWalk
import Derived.LoopTactic
namespace Go.Proofs.YtfeeejigedndcaaGreat
open Go.ChangeShapes Go.WideShapes Go.ChangeAt Go.RowKit
set_option maxRecDepth 100000

/-- The octet at a place, zero behind the end. -/
def oct (zs : List Int) (i : Nat) : Int := zs[i]?.getD 0
/-- The first word. -/
def word (zs : List Int) : Int := oct zs 0 * 16777216 + oct zs 1 * 65536 + oct zs 2 * 256 + oct zs 3
/-- All words. -/
def words (zs : List Int) : List Int := (List.range ((zs.length + 3) / 4)).map fun k => word (zs.drop (4 * k))

theorem oct_bd {zs : List Int} (h : Octs zs) (i : Nat) : 0 ≤ oct zs i ∧ oct zs i ≤ 255 := h.at_ i
theorem oct_drop (zs : List Int) (k i : Nat) : oct (zs.drop k) i = oct zs (k + i) := by
  unfold oct
  rw [List.getElem?_drop]
theorem Octs.drop {zs : List Int} (h : Octs zs) (k : Nat) : Octs (zs.drop k) := fun z hz => h z (List.mem_of_mem_drop hz)
theorem Octs.take {zs : List Int} (h : Octs zs) (k : Nat) : Octs (zs.take k) := fun z hz => h z (List.mem_of_mem_take hz)
theorem Octs.append {a b : List Int} (h : Octs a) (k : Octs b) : Octs (a ++ b) := fun z hz => (List.mem_append.1 hz).elim (h z) (k z)
theorem word_bd {zs : List Int} (h : Octs zs) : 0 ≤ word zs ∧ word zs < 4294967296 := by
  have := oct_bd h 0
  have := oct_bd h 1
  have := oct_bd h 2
  have := oct_bd h 3
  unfold word
  omega
theorem words_length (zs : List Int) : (words zs).length = (zs.length + 3) / 4 := by simp [words]
theorem words_at (zs : List Int) (k : Nat) (h : k < (zs.length + 3) / 4) : (words zs)[k]? = some (word (zs.drop (4 * k))) := by
  simp [words, List.getElem?_map, List.getElem?_range h]
theorem words_snoc (zs : List Int) (k : Nat) (h : k < (zs.length + 3) / 4) : (words zs).take (k + 1) = (words zs).take k ++ [word (zs.drop (4 * k))] := by
  have hl : k < (words zs).length := by rw [words_length]; exact h
  rw [List.take_succ_eq_append_getElem hl]
  have := words_at zs k h
  rw [List.getElem?_eq_getElem hl] at this
  injection this with this
  rw [this]
theorem words_bd {zs : List Int} (h : Octs zs) (k : Nat) (hk : k < (words zs).length) : 0 ≤ (words zs)[k] ∧ (words zs)[k] < 4294967296 := by
  have h1 := words_at zs k (by rw [words_length] at hk; exact hk)
  rw [List.getElem?_eq_getElem hk] at h1
  injection h1 with h1
  rw [h1]
  exact word_bd (h.drop _)

theorem word_append_left (a b : List Int) (k : Nat) (h : 4 * k + 4 ≤ a.length) : word ((a ++ b).drop (4 * k)) = word (a.drop (4 * k)) := by
  have e : ∀ i, i < 4 → oct ((a ++ b).drop (4 * k)) i = oct (a.drop (4 * k)) i := fun i hi => by
    rw [oct_drop, oct_drop]
    unfold oct
    rw [List.getElem?_append_left (by omega)]
  unfold word
  rw [e 0 (by omega), e 1 (by omega), e 2 (by omega), e 3 (by omega)]

theorem words_append (a b : List Int) (m : Nat) (h : a.length = 4 * m) : words (a ++ b) = words a ++ words b := by
  unfold words
  rw [List.length_append, h, show (4 * m + b.length + 3) / 4 = m + (b.length + 3) / 4 by omega, show (4 * m + 3) / 4 = m by omega, List.range_add, List.map_append, List.map_map]
  congr 1
  · apply List.map_congr_left
    intro k hk
    have := List.mem_range.1 hk
    exact word_append_left a b k (by omega)
  · apply List.map_congr_left
    intro k _
    simp only [Function.comp]
    rw [show 4 * (m + k) = a.length + 4 * k by omega, List.drop_append, List.drop_of_length_le (by omega), List.nil_append, Nat.add_sub_cancel_left]

/-- A sum. -/
structure S4 where
  A : Int
  B : Int
  C : Int
  D : Int
/-- As a value. -/
abbrev S4.val (s : S4) : Value := .agg #[.int .u64 s.A, .int .u64 s.B, .int .u64 s.C, .int .u64 s.D]
/-- Behind one word. -/
def sA (s : S4) (x : Int) : Int := IntKind.u64.wrap (s.A + x)
def sB (s : S4) (x : Int) : Int := IntKind.u64.wrap (s.B + sA s x)
def sC (s : S4) (x : Int) : Int := IntKind.u64.wrap (s.C + sB s x)
def sD (s : S4) (x : Int) : Int := IntKind.u64.wrap (s.D + sC s x)
def stepS (s : S4) (x : Int) : S4 := ⟨sA s x, sB s x, sC s x, sD s x⟩
/-- Behind words. -/
def feedS (s : S4) (xs : List Int) : S4 := xs.foldl stepS s
theorem feedS_snoc (s : S4) (xs : List Int) (x : Int) : feedS s (xs ++ [x]) = stepS (feedS s xs) x := by simp [feedS]
theorem feedS_append (s : S4) (xs ys : List Int) : feedS s (xs ++ ys) = feedS (feedS s xs) ys := by simp [feedS]

theorem or_low2 (a b i m : Nat) (hm : m = 2 ^ i) (h : a < m) : b * m ||| a = b * m + a := by
  subst hm
  rw [← Nat.shiftLeft_eq, Nat.shiftLeft_add_eq_or_of_lt h]
theorem or_word (o0 o1 o2 o3 : Int) (b0 : 0 ≤ o0 ∧ o0 ≤ 255) (b1 : 0 ≤ o1 ∧ o1 ≤ 255) (b2 : 0 ≤ o2 ∧ o2 ≤ 255) (b3 : 0 ≤ o3 ∧ o3 ≤ 255) :
    bits BinOp.or IntKind.u32 (bits BinOp.or IntKind.u32 (bits BinOp.or IntKind.u32 (o0 * 16777216) (o1 * 65536)) (o2 * 256)) o3 = o0 * 16777216 + o1 * 65536 + o2 * 256 + o3 := by
  obtain ⟨n0, rfl⟩ := Int.eq_ofNat_of_zero_le b0.1
  obtain ⟨n1, rfl⟩ := Int.eq_ofNat_of_zero_le b1.1
  obtain ⟨n2, rfl⟩ := Int.eq_ofNat_of_zero_le b2.1
  obtain ⟨n3, rfl⟩ := Int.eq_ofNat_of_zero_le b3.1
  rw [show ((n0 : Int) * 16777216) = ((n0 * 16777216 : Nat) : Int) by omega, show ((n1 : Int) * 65536) = ((n1 * 65536 : Nat) : Int) by omega, show ((n2 : Int) * 256) = ((n2 * 256 : Nat) : Int) by omega]
  rw [u32_or_nat (n0 * 16777216) (n1 * 65536) (by omega) (by omega), or_low2 (n1 * 65536) n0 24 16777216 (by decide) (by omega)]
  rw [u32_or_nat _ (n2 * 256) (by omega) (by omega), show n0 * 16777216 + n1 * 65536 = (n0 * 256 + n1) * 65536 by omega, or_low2 (n2 * 256) _ 16 65536 (by decide) (by omega)]
  rw [u32_or_nat _ n3 (by omega) (by omega), show (n0 * 256 + n1) * 65536 + n2 * 256 = ((n0 * 256 + n1) * 256 + n2) * 256 by omega, or_low2 n3 _ 8 256 (by decide) (by omega)]
  omega

theorem wrap_u64_is (n : Int) : IntKind.u64.wrap n = n % 18446744073709551616 := by
  simp only [IntKind.wrap, IntKind.signed, IntKind.bits]
  simp

/-- Is it a sum that may be? -/
def S4.ok (s : S4) : Prop := (0 ≤ s.A ∧ s.A < 18446744073709551616) ∧ (0 ≤ s.B ∧ s.B < 18446744073709551616) ∧ (0 ≤ s.C ∧ s.C < 18446744073709551616) ∧ (0 ≤ s.D ∧ s.D < 18446744073709551616)
theorem stepS_ok (s : S4) (x : Int) : (stepS s x).ok := by
  simp only [S4.ok, stepS, sA, sB, sC, sD, wrap_u64_is]
  omega
theorem feedS_ok (s : S4) (h : s.ok) (xs : List Int) : (feedS s xs).ok := by
  rcases List.eq_nil_or_concat xs with rfl | ⟨ys, y, rfl⟩
  · exact h
  · rw [List.concat_eq_append, feedS_snoc]
    exact stepS_ok _ _

theorem feedS_A : ∀ (xs : List Int) (s : S4), (feedS s xs).A % 18446744073709551616 = (s.A + xs.sum) % 18446744073709551616
  | [], s => by simp [feedS]
  | x :: xs, s => by
    have := feedS_A xs (stepS s x)
    simp only [feedS, List.foldl_cons, List.sum_cons, stepS, sA, wrap_u64_is] at this ⊢
    omega

/-- One word alone is another one: A is another one. -/
theorem feedS_one (s : S4) (xs ys : List Int) (k : Nat) (hl : xs.length = ys.length) (hk : k < xs.length) (hsame : ∀ j, j ≠ k → xs[j]? = ys[j]?)
    (hx : ∀ j (h : j < xs.length), 0 ≤ xs[j] ∧ xs[j] < 4294967296) (hy : ∀ j (h : j < ys.length), 0 ≤ ys[j] ∧ ys[j] < 4294967296) (hne : xs[k]? ≠ ys[k]?) : (feedS s xs).A ≠ (feedS s ys).A := by
  have hky : k < ys.length := by omega
  have ex : xs = xs.take k ++ xs[k] :: xs.drop (k + 1) := by rw [List.getElem_cons_drop, List.take_append_drop]
  have ey : ys = ys.take k ++ ys[k] :: ys.drop (k + 1) := by rw [List.getElem_cons_drop, List.take_append_drop]
  have et : xs.take k = ys.take k := by
    apply List.ext_getElem?
    intro j
    rw [List.getElem?_take, List.getElem?_take]
    split
    · exact hsame j (by omega)
    · rfl
  have ed : xs.drop (k + 1) = ys.drop (k + 1) := by
    apply List.ext_getElem?
    intro j
    rw [List.getElem?_drop, List.getElem?_drop]
    exact hsame _ (by omega)
  intro he
  have h1 := feedS_A xs s
  have h2 := feedS_A ys s
  rw [he, h2] at h1
  have sx : xs.sum = (xs.take k).sum + (xs[k] + (xs.drop (k + 1)).sum) := by
    have := congrArg List.sum ex
    rwa [List.sum_append, List.sum_cons] at this
  have sy : ys.sum = (ys.take k).sum + (ys[k] + (ys.drop (k + 1)).sum) := by
    have := congrArg List.sum ey
    rwa [List.sum_append, List.sum_cons] at this
  rw [sx, sy, et, ed] at h1
  have b1 := hx k hk
  have b2 := hy k hky
  have : xs[k] = ys[k] := by omega
  apply hne
  rw [List.getElem?_eq_getElem hk, List.getElem?_eq_getElem hky, this]

end Go.Proofs.YtfeeejigedndcaaGreat

namespace Go.Proofs.YtfeeejigedndcaaGreat
open Go.ChangeShapes Go.WideShapes Go.ChangeAt Go.RowKit
set_option maxRecDepth 100000

theorem size5 : (Tryz.prog.info? 5).map (·.size) = some 1 := by kernel_rfl

/-- The first four octets, as cells. -/
def lay4 (zs : List Int) : List Value := (zs.take 4).map (Value.int .u8)
theorem lay4_length (zs : List Int) : (lay4 zs).length = min 4 zs.length := by simp [lay4]
theorem lay4_one (zs : List Int) : ∀ v ∈ lay4 zs, v.oneCell' = true := fun v hv => by
  obtain ⟨z, _, rfl⟩ := List.mem_map.1 hv
  rfl
theorem lay4_at (zs : List Int) (j : Nat) (v : Value) (h : (lay4 zs)[j]? = some v) : (zs.map (Value.int .u8))[j]? = some v := by
  unfold lay4 at h
  rw [List.map_take, List.getElem?_take] at h
  split at h
  · exact h
  · cases h
theorem splice_word (zs : List Int) : splice [.int .u8 0, .int .u8 0, .int .u8 0, .int .u8 0] 0 (lay4 zs) = [.int .u8 (oct zs 0), .int .u8 (oct zs 1), .int .u8 (oct zs 2), .int .u8 (oct zs 3)] := by
  rcases zs with _ | ⟨a, _ | ⟨b, _ | ⟨c, _ | ⟨d, zs⟩⟩⟩⟩ <;> simp [splice, oct, lay4]

set_option maxHeartbeats 400000 in
theorem firstWord_any (A : Option Addr) (c : Nat) (zs : List Int) (ho : Octs zs) (w : World) (hr : RdB w A zs) :
    Calls Tryz.prog 138 #[.slice A zs.length c] w fun e w' => e = .returned (.int .u32 (word zs)) ∧ Below w.heap.size w w' := by
  have HR := Lib.hid hr
  clear hr
  go_enter Tryz.func138, Tryz.ntmps138
  go_wp2_with (refine wpList_copy_splice (o := ⟨some 6, _, _, _, _, _⟩) rfl (.tmp 4) (.tmp 5) 46 46 rfl 5 Tryz.underlying46 size5 _ A 4 4 zs.length c rfl rfl w.heap.size 0 [.int .u8 0, .int .u8 0, .int .u8 0, .int .u8 0] 238 ?hg (lay4 zs) ?hn ?hpos ?hfit (lay4_one zs) w.heap.size w ?hb (Nat.le_refl _) ?hrest)
  case hg => exact heap_alloc_new w _
  case hn => rw [lay4_length]; exact Nat.min_comm _ _
  case hpos =>
    intro hp
    rw [lay4_length] at hp
    obtain ⟨b, off, rfl, hb, hc⟩ := HR.out (by intro h; rw [List.map_eq_nil_iff] at h; subst h; simp at hp)
    refine ⟨_, rfl, fun j v hj => ?_⟩
    rw [add_plain]
    exact (((Below.refl w.heap.size w).alloc (Nat.le_refl _) _).cell (p := ⟨b, off + j, none⟩) hb).trans (hc j v (lay4_at zs j v hj))
  case hfit => rw [lay4_length]; simp; omega
  case hb => exact (Below.refl w.heap.size w).alloc (Nat.le_refl _) _
  case hrest =>
    intro w1 hw1 hB1
    rw [splice_word] at hw1
    have b0 := oct_bd ho 0
    have b1 := oct_bd ho 1
    have b2 := oct_bd ho 2
    have b3 := oct_bd ho 3
    have hwd : word zs = oct zs 0 * 16777216 + oct zs 1 * 65536 + oct zs 2 * 256 + oct zs 3 := rfl
    generalize oct zs 0 = o0 at *
    generalize oct zs 1 = o1 at *
    generalize oct zs 2 = o2 at *
    generalize oct zs 3 = o3 at *
    have c0 : w1.cell? ⟨w.heap.size, 0, none⟩ = some (.int .u8 o0) := cell_of_row w1 w.heap.size 0 _ _ _ hw1.out
    have c1 : w1.cell? ⟨w.heap.size, 1, none⟩ = some (.int .u8 o1) := cell_of_row w1 w.heap.size 1 _ _ _ hw1.out
    have c2 : w1.cell? ⟨w.heap.size, 2, none⟩ = some (.int .u8 o2) := cell_of_row w1 w.heap.size 2 _ _ _ hw1.out
    have c3 : w1.cell? ⟨w.heap.size, 3, none⟩ = some (.int .u8 o3) := cell_of_row w1 w.heap.size 3 _ _ _ hw1.out
    have HW := Lib.hid hwd
    clear hwd hw1 ho HR
    go_wp2
    go_ret
    refine ⟨?_, hB1⟩
    rw [HW.out, ← or_word o0 o1 o2 o3 b0 b1 b2 b3]
    rfl

end Go.Proofs.YtfeeejigedndcaaGreat

namespace Go.Proofs.YtfeeejigedndcaaGreat
open Go.ChangeShapes Go.WideShapes Go.ChangeAt Go.RowKit
set_option maxRecDepth 100000

theorem info34 : (Tryz.prog.info? 169).map (fun i => (i.zero, i.size, i.bytes)) = some (some (.int .u32 0), 1, 4) := by kernel_rfl

theorem firstWord_at (A : Option Addr) (n c : Nat) (zs : List Int) (hn : zs.length = n) (ho : Octs zs) (w : World) (hr : RdB w A zs) :
    Calls Tryz.prog 138 #[.slice A n c] w fun e w' => e = .returned (.int .u32 (word zs)) ∧ Below w.heap.size w w' := by
  subst hn
  exact firstWord_any A c zs ho w hr

theorem rdB_drop {w : World} {b off : Nat} {zs : List Int} (h : RdB w (some ⟨b, off, none⟩) zs) (n : Nat) : RdB w (some ⟨b, off + n, none⟩) (zs.drop n) := fun hne => by
  obtain ⟨b', off', e, hb, hc⟩ := h (by intro e; rw [List.map_eq_nil_iff] at e; subst e; simp at hne)
  injection e with e
  injection e with e1 e2
  subst e1 e2
  refine ⟨b, off + n, rfl, hb, fun j u hu => ?_⟩
  rw [Nat.add_assoc]
  refine hc (n + j) u ?_
  rw [List.getElem?_map, List.getElem?_drop] at hu
  rw [List.getElem?_map]
  exact hu

theorem cell_one_new (w : World) (x : Value) (t : TypeId) : ∀ j u, [x][j]? = some u → (w.alloc (.cells #[x] t)).cell? ((⟨w.heap.size, 0, none⟩ : Addr).add j) = some u := by
  intro j u h
  rw [add_plain, cell_of_row (w.alloc (.cells #[x] t)) w.heap.size (0 + j) #[x] t (0, 0) (heap_alloc_new w _)]
  rw [Nat.zero_add]
  simpa using h

/-- The words, as cells. -/
def wcells (xs : List Int) : List Value := xs.map (Value.int .u32)

set_option maxHeartbeats 400000 in
theorem words_any (A : Option Addr) (c : Nat) (zs : List Int) (hl : zs.length ≤ 140737488351232) (hcap : zs.length ≤ c) (ho : Octs zs) (w : World) (hr : RdB w A zs) :
    Calls Tryz.prog 133 #[.slice A zs.length c] w fun e w' => e = .returned (.slice (some ⟨w.heap.size, 0, none⟩) (words zs).length (words zs).length) ∧ Rd w' (some ⟨w.heap.size, 0, none⟩) (wcells (words zs)) ∧ Below w.heap.size w w' := by
  obtain ⟨i0, hi, hz0, hz1, hz2⟩ := info_parts info34
  obtain ⟨m, hm⟩ : ∃ m, (words zs).length = m := ⟨_, rfl⟩
  have hm1 : zs.length ≤ 4 * m := by rw [words_length] at hm; omega
  have hm2 : 4 * m < zs.length + 4 := by rw [words_length] at hm; omega
  rw [hm]
  have HM := Lib.hid hm
  have HR := Lib.hid hr
  clear hm hr
  go_enter Tryz.func133, Tryz.ntmps133
  go_wp2_with (at_make; refine wpList_make_own _ rfl _ _ 167 rfl w.heap.size 169 i0 (.int .u32 0) 1 Tryz.underlying167 hi hz0 hz1 .i64 .i64 _ m rfl rfl (by omega) (by rw [hz2]; omega) (by unfold maxLen; omega) (Nat.le_refl _) ?_; intro w0 hown0 hgrow0)
  go_loopw [3, 4] (fun v i wr => ∃ k : Nat, k ≤ m ∧ i = .int .i64 (4 * k) ∧ v = .slice (some ⟨w.heap.size, 0, none⟩) k m ∧ wr.ownsRow w.heap.size 169 1 (.slice (some ⟨w.heap.size, 0, none⟩) k m) k (wcells ((words zs).take k)) ∧ Below w.heap.size w wr) (fun _ i _ => 4 * m - (intOf i).toNat)
  case atStart =>
    exact ⟨0, Nat.zero_le _, rfl, rfl, hown0, (Below.refl _ w).grown hgrow0 (Nat.le_refl _) (fun _ h => by cases h)⟩
  case round =>
    obtain ⟨k, hk, rfl, rfl, hown, hB⟩ := hrel
    by_cases hlt : 4 * k < zs.length
    · obtain ⟨b, off, rfl, hb, _⟩ := HR.out.cell hlt
      have hr1 := (rdB_drop HR.out (4 * k)).below hB
      have HR1 := Lib.hid hr1
      have hd : decide (c < 4 * k) = false := by simp; omega
      have hne : c ≠ 4 * k := by omega
      clear hr1
      have hkm : k < m := by omega
      have hs := words_snoc zs k (by have := HM.out; rw [words_length] at this; omega)
      have hws : wcells ((words zs).take k) ++ [.int .u32 (word (zs.drop (4 * k)))] = wcells ((words zs).take (k + 1)) := by
        rw [hs]
        simp [wcells]
      have HWS := Lib.hid hws
      clear hs hws
      go_wp2_with fail
      refine (firstWord_at _ _ _ (zs.drop (4 * k)) (by simp) (ho.drop _) _ HR1.out).mono ?_
      rintro e w1 ⟨rfl, hB1⟩
      have hown1 : w1.ownsRow w.heap.size 169 1 (.slice (some ⟨w.heap.size, 0, none⟩) k m) k (wcells ((words zs).take k)) := own_below hown hB1 (Nat.le_refl _)
      have hBw : Below w.heap.size w w1 := hB.trans (hB1.mono hB.size)
      generalize word (zs.drop (4 * k)) = x at *
      generalize wcells ((words zs).take k) = cs at *
      go_wp2_with (at_builtin; refine wpList_append_fits _ rfl _ _ 167 rfl w.heap.size 169 i0 1 Tryz.underlying167 hi hz1 w.heap.size k m cs rfl (by exact hown1.alloc _) ⟨w1.heap.size, 0, none⟩ 1 1 [.int .u32 x] rfl rfl (by exact cell_one_new _ _ _) (by simp [Value.oneCell']) (by omega) ?_; intro w2 hown2 hgrow2)
      have hB2 : Below w.heap.size w w2 := (hBw.alloc hBw.size _).grown hgrow2 (by have := hBw.size; simp; omega) (fun j e => by cases e; exact Nat.le_refl _)
      clear hgrow2
      rw [HWS.out] at hown2
      go_roundw
      case rel => exact ⟨k + 1, by omega, congrArg (Value.int .i64) (by omega), rfl, hown2, hB2⟩
      case measure => simp [intOf]; omega
    · have hke : k = m := by omega
      subst hke
      go_wp2
      go_ret
      refine ⟨rfl, ?_, hB⟩
      have := Rd.of_own hown
      rw [← HM.out, List.take_length] at this
      exact this

end Go.Proofs.YtfeeejigedndcaaGreat

namespace Go.Proofs.YtfeeejigedndcaaGreat
open Go.ChangeShapes Go.WideShapes Go.ChangeAt Go.RowKit
set_option maxRecDepth 100000

/-- A sum's cells. -/
def scells (s : S4) : List Value := [.int .u64 s.A, .int .u64 s.B, .int .u64 s.C, .int .u64 s.D]

theorem wcells_at (xs : List Int) (k : Nat) (h : k < xs.length) : (wcells xs)[k]? = some (.int .u32 xs[k]) := by
  simp [wcells, List.getElem?_map, List.getElem?_eq_getElem h]

theorem feed_take (s : S4) (xs : List Int) (k : Nat) (h : k < xs.length) : feedS s (xs.take (k + 1)) = stepS (feedS s (xs.take k)) xs[k] := by
  rw [List.take_succ_eq_append_getElem h, feedS_snoc]

theorem scells_step (s : S4) (x : Int) : ((((scells s).set 0 (.int .u64 (sA s x))).set 1 (.int .u64 (sB s x))).set 2 (.int .u64 (sC s x))).set 3 (.int .u64 (sD s x)) = scells (stepS s x) := rfl

set_option maxHeartbeats 400000 in
theorem feed_any (s : S4) (A : Option Addr) (c : Nat) (zs : List Int) (hl : zs.length ≤ 140737488351232) (hcap : zs.length ≤ c) (ho : Octs zs) (w : World) (hr : RdB w A zs) :
    Calls Tryz.prog 124 #[s.val, .slice A zs.length c] w fun e w' => e = .returned (feedS s (words zs)).val ∧ Below w.heap.size w w' := by
  have HR := Lib.hid hr
  clear hr
  have hw2 := fun k h => words_bd ho k h
  have HW2 := Lib.hid hw2
  clear hw2
  have hml : (words zs).length ≤ 35184372087809 := by rw [words_length]; omega
  obtain ⟨xs, hxs⟩ : ∃ xs, words zs = xs := ⟨_, rfl⟩
  have HW1 : ∀ w, RdB w A zs → Calls Tryz.prog 133 #[.slice A zs.length c] w fun e w' => e = .returned (.slice (some ⟨w.heap.size, 0, none⟩) xs.length xs.length) ∧ Rd w' (some ⟨w.heap.size, 0, none⟩) (wcells xs) ∧ Below w.heap.size w w' := fun w h => by
    rw [← hxs]
    exact words_any A c zs hl hcap ho w h
  have HW := Lib.hid HW1
  rw [hxs] at HW2 hml ⊢
  clear HW1 hxs
  go_enter Tryz.func124, Tryz.ntmps124
  go_wp2_with fail
  have hB0 : Below w.heap.size w ((w.alloc (.cells #[.int .u64 s.A, .int .u64 s.B, .int .u64 s.C, .int .u64 s.D] 129)).alloc (.cells #[.int .u64 0, .int .u64 0, .int .u64 0, .int .u64 0] 129)) := ((Below.refl _ w).alloc (Nat.le_refl _) _).alloc (by simp) _
  refine (HW.out _ (HR.out.below hB0)).mono ?_
  rintro e w1 ⟨rfl, hR1, hB1⟩
  have k0 : Blk w1 w.heap.size 129 (scells s) := (((Blk.new w (scells s) 129).alloc _).below hB1 (by simp; omega))
  have k1 : Blk w1 (w.heap.size + 1) 129 (scells ⟨0, 0, 0, 0⟩) := by
    have := (Blk.new (w.alloc (.cells (scells s).toArray 129)) (scells ⟨0, 0, 0, 0⟩) 129)
    rw [World.size_alloc] at this
    exact this.below hB1 (by simp)
  have hB2 : Below w.heap.size w w1 := hB0.trans (hB1.mono (by simp; omega))
  simp only [World.size_alloc] at hR1
  clear hB0 hB1 HR HW
  go_wp2
  go_loopw [10] (fun i wr => ∃ k : Nat, k ≤ xs.length ∧ i = .int .i64 k ∧ Blk wr w.heap.size 129 (scells (feedS s (xs.take k))) ∧ Blk wr (w.heap.size + 1) 129 (scells ⟨0, 0, 0, 0⟩) ∧ Rd wr (some ⟨w.heap.size + 1 + 1, 0, none⟩) (wcells xs) ∧ Below w.heap.size w wr) (fun i _ => xs.length - (intOf i).toNat)
  case atStart =>
    exact ⟨0, Nat.zero_le _, rfl, k0, k1, hR1, hB2⟩
  case round =>
    clear k0 k1 hR1 hB2
    obtain ⟨k, hk, rfl, k0, k1, hR, hB⟩ := hrel
    by_cases hlt : k < xs.length
    · obtain ⟨hx0, hx1⟩ := HW2.out k hlt
      obtain ⟨b, off, e, hb, hc⟩ := hR (by intro h; have := congrArg List.length h; simp [wcells] at this; subst this; simp at hlt)
      injection e with e
      injection e with e1 e2
      subst e1 e2
      have hcx := hc k _ (wcells_at xs k hlt)
      rw [Nat.zero_add] at hcx
      have hft := feed_take s xs k hlt
      have HFT := Lib.hid hft
      have HK0 := Lib.hid k0
      have HK1 := Lib.hid k1
      have HRR := Lib.hid hR
      have c0 := k0.cell 0
      have c1 := k0.cell 1
      have c2 := k0.cell 2
      have c3 := k0.cell 3
      have f0 := k0.frozen 0
      have f1 := k0.frozen 1
      have f2 := k0.frozen 2
      have f3 := k0.frozen 3
      clear hft k0 k1 hR hc
      generalize xs[k] = x at *
      generalize feedS s (xs.take k) = t at *
      simp only [scells, List.getElem?_cons_zero, List.getElem?_cons_succ] at c0 c1 c2 c3
      go_wp2
      go_roundw
      case rel =>
        refine ⟨k + 1, by omega, by go_num, ?_, (((HK1.out.other (by omega) _ _).other (by omega) _ _).other (by omega) _ _).other (by omega) _ _, (((HRR.out.other (by omega) _ _).other (by omega) _ _).other (by omega) _ _).other (by omega) _ _, (((hB.setCell (p := ⟨w.heap.size, 0, none⟩) (Nat.le_refl _) _).setCell (p := ⟨w.heap.size, 1, none⟩) (Nat.le_refl _) _).setCell (p := ⟨w.heap.size, 2, none⟩) (Nat.le_refl _) _).setCell (p := ⟨w.heap.size, 3, none⟩) (Nat.le_refl _) _⟩
        rw [HFT.out, ← scells_step]
        exact (((HK0.out.set 0 _).set 1 _).set 2 _).set 3 _
      case measure => simp [intOf]; omega
    · have hke : k = xs.length := by omega
      subst hke
      rw [List.take_length] at k0
      obtain ⟨t, ht⟩ : ∃ t, feedS s xs = t := ⟨_, rfl⟩
      rw [ht] at k0
      have HT := Lib.hid ht
      clear ht
      have c0 := k0.cell 0
      have c1 := k0.cell 1
      have c2 := k0.cell 2
      have c3 := k0.cell 3
      have d0 := k1.cell 0
      have d1 := k1.cell 1
      have d2 := k1.cell 2
      have d3 := k1.cell 3
      have f0 := k1.frozen 0
      have f1 := k1.frozen 1
      have f2 := k1.frozen 2
      have f3 := k1.frozen 3
      simp only [scells, List.getElem?_cons_zero, List.getElem?_cons_succ] at c0 c1 c2 c3 d0 d1 d2 d3
      have HK0 := Lib.hid k0
      have HK1 := Lib.hid k1
      clear k0 k1 hR
      go_wp2
      refine bodyPost_ret (v := t.val) (by simp [results, Tryz.results124, go_sem, d0, d1, d2, d3]) rfl ⟨by rw [HT.out], (((hB.setCell (p := ⟨w.heap.size + 1, 0, none⟩) (Nat.le_succ _) _).setCell (p := ⟨w.heap.size + 1, 1, none⟩) (Nat.le_succ _) _).setCell (p := ⟨w.heap.size + 1, 2, none⟩) (Nat.le_succ _) _).setCell (p := ⟨w.heap.size + 1, 3, none⟩) (Nat.le_succ _) _⟩

end Go.Proofs.YtfeeejigedndcaaGreat

namespace Go.Proofs.YtfeeejigedndcaaGreat
open Go.ChangeShapes Go.WideShapes Go.ChangeAt Go.RowKit
set_option maxRecDepth 100000

/-- The sum of nothing. -/
def zeroS : S4 := ⟨0, 0, 0, 0⟩

theorem feed_at (s : S4) (A : Option Addr) (n c : Nat) (zs : List Int) (hn : zs.length = n) (hl : n ≤ 140737488351232) (hcap : n ≤ c) (ho : Octs zs) (w : World) (hr : RdB w A zs) :
    Calls Tryz.prog 124 #[s.val, .slice A n c] w fun e w' => e = .returned (feedS s (words zs)).val ∧ Below w.heap.size w w' := by
  subst hn
  exact feed_any s A c zs hl hcap ho w hr

set_option maxHeartbeats 400000 in
theorem of_any (A : Option Addr) (n c : Nat) (zs : List Int) (hn : zs.length = n) (hl : n ≤ 140737488351232) (hcap : n ≤ c) (ho : Octs zs) (w : World) (hr : RdB w A zs) :
    Calls Tryz.prog 106 #[.slice A n c] w fun e w' => e = .returned (feedS zeroS (words zs)).val ∧ Below w.heap.size w w' := by
  have HR := Lib.hid hr
  have HN := Lib.hid hn
  clear hr hn
  obtain ⟨t, ht⟩ : ∃ t, feedS zeroS (words zs) = t := ⟨_, rfl⟩
  have HF1 : ∀ w, RdB w A zs → Calls Tryz.prog 124 #[.agg #[.int .u64 0, .int .u64 0, .int .u64 0, .int .u64 0], .slice A n c] w fun e w' => e = .returned t.val ∧ Below w.heap.size w w' := fun w h => by
    rw [← ht]
    exact feed_at zeroS A n c zs HN.out hl hcap ho w h
  have HF := Lib.hid HF1
  rw [ht]
  clear HF1 ht
  go_enter Tryz.func106, Tryz.ntmps106
  go_wp2_with fail
  have hB0 : Below w.heap.size w (w.alloc (.cells #[.int .u64 0, .int .u64 0, .int .u64 0, .int .u64 0] 129)) := (Below.refl _ w).alloc (Nat.le_refl _) _
  refine (HF.out _ (HR.out.below hB0)).mono ?_
  rintro e w1 ⟨rfl, hB1⟩
  have k1 : Blk w1 w.heap.size 129 (scells zeroS) := (Blk.new w (scells zeroS) 129).below hB1 (by simp)
  have hB : Below w.heap.size w w1 := hB0.trans (hB1.mono (by simp))
  have d0 := k1.cell 0
  have d1 := k1.cell 1
  have d2 := k1.cell 2
  have d3 := k1.cell 3
  have f0 := k1.frozen 0
  have f1 := k1.frozen 1
  have f2 := k1.frozen 2
  have f3 := k1.frozen 3
  simp only [scells, zeroS, List.getElem?_cons_zero, List.getElem?_cons_succ] at d0 d1 d2 d3
  clear k1 hB0 hB1 HF HR HN
  go_wp2
  refine bodyPost_ret (v := t.val) (by simp [results, Tryz.results106, go_sem, d0, d1, d2, d3]) rfl ⟨rfl, (((hB.setCell (p := ⟨w.heap.size, 0, none⟩) (Nat.le_refl _) _).setCell (p := ⟨w.heap.size, 1, none⟩) (Nat.le_refl _) _).setCell (p := ⟨w.heap.size, 2, none⟩) (Nat.le_refl _) _).setCell (p := ⟨w.heap.size, 3, none⟩) (Nat.le_refl _) _⟩

/-- Octets, as cells. -/
def octCells (zs : List Int) : List Value := zs.map (Value.int .u8)
theorem octCells_length (zs : List Int) : (octCells zs).length = zs.length := by simp [octCells]
theorem octCells_one (zs : List Int) : ∀ u ∈ octCells zs, u.oneCell' = true := fun u hu => by
  obtain ⟨z, _, rfl⟩ := List.mem_map.1 hu
  rfl

theorem own_plain {w : World} {base : Nat} {e : TypeId} {v : Value} {n : Nat} {xs : List Value} (h : w.ownsRow base e 1 v (0 + n) ([] ++ xs)) : w.ownsRow base e 1 v n xs := by
  rw [Nat.zero_add, List.nil_append] at h
  exact h

/-- The cells of a sum, and what lay, stay. -/
theorem held4 {W W' : World} {g : Nat} {a b c d : Value} (hg : g < W.heap.size) (h0 : W.cell? ⟨g, 0, none⟩ = some a) (h1 : W.cell? ⟨g, 1, none⟩ = some b) (h2 : W.cell? ⟨g, 2, none⟩ = some c) (h3 : W.cell? ⟨g, 3, none⟩ = some d) (hB : Below W.heap.size W W') :
    W'.cell? ⟨g, 0, none⟩ = some a ∧ W'.cell? ⟨g, 1, none⟩ = some b ∧ W'.cell? ⟨g, 2, none⟩ = some c ∧ W'.cell? ⟨g, 3, none⟩ = some d ∧ Below W.heap.size W W' :=
  ⟨(hB.cell (p := ⟨g, 0, none⟩) hg).trans h0, (hB.cell (p := ⟨g, 1, none⟩) hg).trans h1, (hB.cell (p := ⟨g, 2, none⟩) hg).trans h2, (hB.cell (p := ⟨g, 3, none⟩) hg).trans h3, hB⟩

end Go.Proofs.YtfeeejigedndcaaGreat

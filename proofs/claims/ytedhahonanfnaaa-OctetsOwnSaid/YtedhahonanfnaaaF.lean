/-
  Unhex of what Hex writes is the octets. Conditions: at most 2^47 - 4096 octets.
-/
import Derived.Test.YtedhahonanfnaaaE
import Derived.Test.YtedhahonanfnaaaC
import Derived.Maps.AppendAt
namespace Go.Proofs.Ytedhahonanfnaaa
open Go.ChangeShapes Go.WideShapes Go.ChangeAt Go.RowKit Go.Shelf
set_option maxRecDepth 100000
attribute [local go_sem] Oper.semAt_some

/-- What two digits stand for. -/
def two (p : DP) : Int := dval p.1.1 * 16 + dval p.1.2
def unh (xs : List DP) : List Int := xs.map two

/-- What holds between two rounds of Unhex. -/
structure UnI (w : World) (B N : Nat) (pre : List DP) (W : World) : Prop where
  box : Boxed W B 22 (.slice (some ⟨w.heap.size + 1 + 1, 0, none⟩) pre.length N)
  row : W.ownsRow (w.heap.size + 1 + 1) 5 1 (.slice (some ⟨w.heap.size + 1 + 1, 0, none⟩) pre.length N) pre.length ((unh pre).map (Value.int .u8))
  r0 : Boxed W w.heap.size 22 (.slice none 0 0)
  r1 : Boxed W (w.heap.size + 1) 24 (.int .i64 0)
  below : Below w.heap.size w W

theorem UnI.kept {w : World} {B N : Nat} {pre : List DP} {W W' : World} {row : Option Nat} (h : UnI w B N pre W) (hB : w.heap.size + 1 + 1 < B) (hg : W.grownBy W' row) (hr : ∀ r, row = some r → B < r) : UnI w B N pre W' := by
  refine ⟨h.box.kept hg ?_, h.row.kept hg (.inr ?_), h.r0.kept hg ?_, h.r1.kept hg ?_, h.below.grown hg h.below.size (fun k e => ?_)⟩
  · intro e; have := hr _ e.symm; omega
  · intro e; have := hr (w.heap.size + 1 + 1) (by rw [← e]; rfl); omega
  · intro e; have := hr _ e.symm; omega
  · intro e; have := hr _ e.symm; omega
  · have := hr _ e; omega

theorem dval_bd (c : Int) : 0 ≤ dval c ∧ (Dg c → dval c ≤ 15) := by
  unfold dval Dg
  split
  · omega
  · split <;> omega

theorem two_or (p : DP) : bits BinOp.or IntKind.u8 (dval p.1.1 * 16) (dval p.1.2) = two p := by
  have a := dval_bd p.1.1
  have b := dval_bd p.1.2
  have a1 := a.2 p.2.1
  have b1 := b.2 p.2.2
  obtain ⟨n, hn⟩ := Int.eq_ofNat_of_zero_le a.1
  obtain ⟨m, hm⟩ := Int.eq_ofNat_of_zero_le b.1
  unfold two
  rw [hn, hm]
  rw [show ((n : Int) * 16) = ((n * 16 : Nat) : Int) by omega, u8_or_nat (n * 16) m (by omega) (by omega), or_low m n 4 16 (by decide) (by omega)]
  omega

theorem UnI.step {w : World} {B N L : Nat} {pre : List DP} {x : DP} {W w1 : World} {o : Obj} (h : UnI w B N pre W) (hB : w.heap.size + 1 + 1 < B) (hL : w.heap.size + 1 + 1 < L)
    (hown : w1.ownsRow (w.heap.size + 1 + 1) 5 1 (.slice (some ⟨w.heap.size + 1 + 1, 0, none⟩) (pre.length + 1) N) (pre.length + 1) ((unh pre).map (Value.int .u8) ++ [.int .u8 (two x)]))
    (hgrow : (W.alloc o).grownBy w1 (some (w.heap.size + 1 + 1))) :
    KeepsFrom L W (w1.setCell ⟨B, 0, none⟩ (.slice (some ⟨w.heap.size + 1 + 1, 0, none⟩) (pre.length + 1) N)) ∧
    KeepsBlk (B + 1) W (w1.setCell ⟨B, 0, none⟩ (.slice (some ⟨w.heap.size + 1 + 1, 0, none⟩) (pre.length + 1) N)) ∧
    UnI w B N (pre ++ [x]) (w1.setCell ⟨B, 0, none⟩ (.slice (some ⟨w.heap.size + 1 + 1, 0, none⟩) (pre.length + 1) N)) := by
  have hgs := grownBy_setCell' w1 B (.slice (some ⟨w.heap.size + 1 + 1, 0, none⟩) (pre.length + 1) N)
  have hga := World.grownBy_alloc W o none
  refine ⟨((KeepsOthers.alloc W o).from L).trans ((KeepsFrom.of_grownBy hgrow (fun j e => by cases e; omega)).trans ((KeepsOthers.setCell _ _ _).from L)), ?_, ?_⟩
  · refine KeepsBlk.trans (KeepsBlk.grown hga (by simp)) (KeepsBlk.trans (KeepsBlk.grown hgrow ?_) (KeepsBlk.grown hgs ?_))
    · intro e; injection e; omega
    · intro e; injection e; omega
  · have hbx : Boxed w1 B 22 _ := (h.box.alloc o).kept hgrow (by intro e; injection e; omega)
    refine ⟨?_, ?_, ?_, ?_, ?_⟩
    · rw [List.length_append]; exact hbx.set _
    · rw [List.length_append]
      have : (unh (pre ++ [x])).map (Value.int .u8) = (unh pre).map (Value.int .u8) ++ [.int .u8 (two x)] := by simp [unh]
      rw [this]
      exact hown.kept hgs (.inr (by intro e; simp [Value.ownBlock] at e; omega))
    · exact ((h.r0.alloc o).kept hgrow (by intro e; injection e; omega)).kept hgs (by intro e; injection e; omega)
    · exact ((h.r1.alloc o).kept hgrow (by intro e; injection e; omega)).kept hgs (by intro e; injection e; omega)
    · exact (((h.below.alloc h.below.size o).grown hgrow (by have := h.below.size; simp; omega) (fun k e => by cases e; omega))).setCell (p := ⟨B, 0, none⟩) (by simp; omega) _

theorem unI_own (w : World) (B N L : Nat) (hB : w.heap.size + 1 + 1 < B) (hL : B < L) : OwnFrom L (fun pre W => UnI w B N pre W) :=
  fun _ _ _ _ hs hg hr => hs.kept hB hg (fun r e => by have := (hr r e).1; omega)

set_option maxRecDepth 100000 in
set_option maxHeartbeats 2000000 in
theorem unhex_in (xs : List DP) (hxl : 2 * xs.length ≤ 281474976702464) (w : World) :
    CallsIn Fence.wide 4 Try.prog 6 #[.string (strOfNums (flat xs))] w fun e W' => ∃ A c, e = .returned (.tuple #[.slice A xs.length c, .int .i64 0]) ∧ RdB W' A (unh xs) ∧ xs.length ≤ c ∧ Below w.heap.size w W' := by
  obtain ⟨i0, hi, hz0, hz1, hz2⟩ := info_parts info5
  have hsz : (strOfNums (flat xs)).size = 2 * xs.length := by rw [strOfNums_size, flat_length]
  refine callsIn_of_wp_marks Try.func6 rfl trivial ?_ rfl
  simp only [Try.ntmps6, List.size_toArray, List.length_cons, List.length_nil, Nat.reduceAdd, Nat.reduceSub, Array.replicate_succ, Array.replicate_zero, List.push_toArray, List.append_toArray, List.nil_append, List.cons_append]
  gi_wp2_with (first
    | (gi_at_make; refine wpListIn_make_own _ rfl _ _ 22 rfl (w.heap.size + 1 + 1) 5 i0 (.int .u8 0) 1 Try.underlying22 hi hz0 hz1 .i64 .i64 _ xs.length rfl rfl (by omega) (by rw [hz2]; omega) (by unfold maxLen; omega) (by simp) ?_; intro w0 hown0 hgrow0)
    | (refine ⟨trivial, ?_⟩; gi_at_call 14; refine (pairs_in 3 _ _).mono ?_; rintro e w' ⟨rfl, rfl⟩))
  simp only [World.size_alloc] at hown0
  have hlt := (hown0.lt (w.heap.size + 1 + 1) rfl).2
  have hB0 : Below w.heap.size w w0 := (((Below.refl _ w).alloc (Nat.le_refl _) _).alloc (by simp) _).grown hgrow0 (by simp; omega) (fun _ e => by cases e)
  have b0 : Boxed w0 w.heap.size 22 (.slice none 0 0) := ((Boxed.new w 22 _).alloc _).kept hgrow0 (by simp)
  have b1 : Boxed w0 (w.heap.size + 1) 24 (.int .i64 0) := by
    have := Boxed.new (w.alloc (.cells #[.slice none 0 0] 22)) 24 (.int .i64 0)
    rw [World.size_alloc] at this
    exact this.kept hgrow0 (by simp)
  have bx := Boxed.new w0 22 (.slice (some ⟨w.heap.size + 1 + 1, 0, none⟩) 0 xs.length)
  have bs := Boxed.new (w0.alloc (.cells #[.slice (some ⟨w.heap.size + 1 + 1, 0, none⟩) 0 xs.length] 22)) 9 (.string (strOfNums (flat xs)))
  rw [World.size_alloc] at bs
  have hU0 : UnI w w0.heap.size xs.length [] ((w0.alloc (.cells #[.slice (some ⟨w.heap.size + 1 + 1, 0, none⟩) 0 xs.length] 22)).alloc (.cells #[.string (strOfNums (flat xs))] 9)) :=
    ⟨bx.alloc _, (hown0.alloc _).alloc _, (b0.alloc _).alloc _, (b1.alloc _).alloc _, (hB0.alloc hB0.size _).alloc (by have := hB0.size; simp; omega) _⟩
  clear hgrow0 hown0 b0 b1 bx
  refine wpIn_rangeFunc_ownG rfl (by omega) (gf := 17) (lb := #[.pointer (some ⟨w0.heap.size + 1, 0, none⟩)]) rfl trivial (enters_of Try.func17 (by kernel_rfl) rfl)
    (pairs_stops 3 (w0.heap.size + 1) xs hxl _ (by simp) bs.cell) KeepsBlk.trans (fun W l o o' _ h hc _ => KeepsBlk.putObj W l o o' h hc) (Below.refl _ _) (fun _ => rfl)
    (fun pre W => UnI w w0.heap.size xs.length pre W)
    (fun _ _ _ => False)
    (unI_own w w0.heap.size xs.length _ (by omega) (by simp; omega))
    (fun _ _ _ _ _ hs _ _ => hs)
    hU0
    (fun x => { tmps := #[.string (strOfNums (flat xs)), undef, .pointer (some ⟨w.heap.size, 0, none⟩), .pointer (some ⟨w.heap.size + 1, 0, none⟩), .pointer (some ⟨w0.heap.size, 0, none⟩), .int .u8 x.1.1, .int .u8 x.1.2, undef, undef, undef, undef,
      .string (strOfNums (flat xs)), .int .i64 (2 * xs.length), .int .i64 0, .bool false, .string (strOfNums (flat xs)), .int .i64 (2 * xs.length), .int .i64 xs.length, .slice (some ⟨w.heap.size + 1 + 1, 0, none⟩) 0 xs.length, .string (strOfNums (flat xs)),
      .func (.func 17) #[] #[.pointer (some ⟨w0.heap.size + 1, 0, none⟩)], .int .u8 x.1.1, .int .u8 x.1.2, undef, undef, undef, undef, undef, undef, undef, undef, undef, undef, undef, undef, undef, undef, undef, undef, undef, undef, undef, undef, undef, undef, undef, undef], defers := [] }) ?assign ?body ?done ?stop
  case assign =>
    intro l x W K hK
    gi_wp2
    exact hK
  case body =>
    rintro l pre x W hU hpl
    have hc := hU.box.cell
    have g0 := dval_bd x.1.1
    have g1 := dval_bd x.1.2
    have g2 := g0.2 x.2.1
    have g3 := g1.2 x.2.2
    have g4 := g0.1
    have g5 := g1.1
    have hor := two_or x
    clear g0 g1 hsz
    gi_wp2_with (first
      | (refine ⟨trivial, ?_⟩; gi_at_call 15; refine (CallsIn.inRound l (callsIn_wide.2 (digit_ok _ (by first | exact x.2.1 | exact x.2.2) _))).mono ?_; rintro e w' ⟨rfl, rfl⟩)
      | (gi_at_builtin; refine wpListIn_append_fits _ rfl _ _ 22 rfl (w.heap.size + 1 + 1) 5 i0 1 Try.underlying22 hi hz1 (w.heap.size + 1 + 1) pre.length xs.length _ rfl (hU.row.alloc _) ⟨W.heap.size, 0, none⟩ 1 1 [.int .u8 (two x)] rfl rfl (cell_one_new _ _ _) (by simp [Value.oneCell']) (by omega) ?_; intro w1 hown1 hgrow1; have hbx := (hU.box.alloc _).kept hgrow1 (by intro e; injection e; omega); have hc1 := hbx.cell; have hf1 := hbx.frozen))
    exact hU.step (by omega) (by simp; omega) hown1 hgrow1
  case done =>
    rintro D ys W hD rfl hU hK
    have hc := hU.box.cell
    have hc0 := hU.r0.cell
    have hf0 := hU.r0.frozen
    have hc1 := hU.r1.cell
    have hf1 := hU.r1.frozen
    gi_wp2
    obtain ⟨v, hv⟩ : ∃ v, Value.slice (some ⟨w.heap.size + 1 + 1, 0, none⟩) ys.length ys.length = v := ⟨_, rfl⟩
    rw [hv]
    have c1 : Boxed (W.setCell ⟨w.heap.size, 0, none⟩ v) w.heap.size 22 v := hU.r0.set v
    have c2 : Boxed (W.setCell ⟨w.heap.size, 0, none⟩ v) (w.heap.size + 1) 24 (.int .i64 0) := hU.r1.other (by omega) v
    have d1 := c1.other (B' := w.heap.size + 1) (by omega) (.int .i64 0)
    have d2 := c2.set (.int .i64 0)
    have hrow : ((W.setCell ⟨w.heap.size, 0, none⟩ v).setCell ⟨w.heap.size + 1, 0, none⟩ (.int .i64 0)).ownsRow (w.heap.size + 1 + 1) 5 1 (.slice (some ⟨w.heap.size + 1 + 1, 0, none⟩) ys.length ys.length) ys.length ((unh ys).map (Value.int .u8)) :=
      (hU.row.kept (grownBy_setCell' W w.heap.size v) (.inr (by simp [Value.ownBlock]; omega))).kept (grownBy_setCell' _ (w.heap.size + 1) (.int .i64 0)) (.inr (by simp [Value.ownBlock]))
    have hbl : Below w.heap.size w ((W.setCell ⟨w.heap.size, 0, none⟩ v).setCell ⟨w.heap.size + 1, 0, none⟩ (.int .i64 0)) :=
      (hU.below.setCell (p := ⟨w.heap.size, 0, none⟩) (Nat.le_refl _) v).setCell (p := ⟨w.heap.size + 1, 0, none⟩) (by simp) _
    have hK' := (KeepsOthers.setCell _ ⟨w.heap.size + 1, 0, none⟩ (.int .i64 0)).same D _ ((KeepsOthers.setCell W ⟨w.heap.size, 0, none⟩ v).same D _ hK rfl) rfl
    generalize ((W.setCell ⟨w.heap.size, 0, none⟩ v).setCell ⟨w.heap.size + 1, 0, none⟩ (.int .i64 0)) = W2 at *
    refine ⟨by simp, .inl ⟨_, _, rfl, run_takeDeferred hK', ?_⟩⟩
    have hc5 := cell_kept d1.cell (grownBy_putObj' _ D (.deferred none)) (fun r e => by cases e; exact ⟨_, hK', rfl⟩)
    have hc6 := cell_kept d2.cell (grownBy_putObj' _ D (.deferred none)) (fun r e => by cases e; exact ⟨_, hK', rfl⟩)
    refine ⟨.tuple #[v, .int .i64 0], ?_, some ⟨w.heap.size + 1 + 1, 0, none⟩, ys.length, by rw [hv], Rd.of_own (ownsRow_putObj hrow _ hK' rfl), Nat.le_refl _, hbl.trans (belowK_b (w := w) (Nat.le_refl _) W2 D _ _ (by simp at hD; omega) hK' rfl rfl)⟩
    simp [results, Try.f6, go_sem, hc5, hc6]
  case stop =>
    rintro D c pre W _ _ h _
    exact h.elim

theorem hexd_dg (d : Int) (h0 : 0 ≤ d) (h1 : d < 16) : Dg (hexd d) ∧ dval (hexd d) = d := by
  unfold hexd Dg dval
  split
  · refine ⟨by omega, ?_⟩
    rw [if_pos (by omega)]; omega
  · refine ⟨by omega, ?_⟩
    rw [if_neg (by omega), if_pos (by omega)]; omega

/-- Octets, as pairs of digits. -/
theorem pairs_of : ∀ zs : List Int, Octs zs → ∃ xs : List DP, flat xs = hexs zs ∧ unh xs = zs
  | [], _ => ⟨[], rfl, rfl⟩
  | z :: zs, h => by
    obtain ⟨xs, h1, h2⟩ := pairs_of zs (fun x hx => h x (by simp [hx]))
    have hz := h z (by simp)
    have a := hexd_dg (z / 16) (by omega) (by omega)
    have b := hexd_dg (z % 16) (by omega) (by omega)
    refine ⟨⟨(hexd (z / 16), hexd (z % 16)), a.1, b.1⟩ :: xs, ?_, ?_⟩
    · simp only [flat, hexs, List.flatMap_cons] at h1 ⊢
      rw [h1]
    · simp only [unh, List.map_cons, two] at h2 ⊢
      rw [h2, a.2, b.2]
      congr 1
      omega

theorem unhex_hex (zs : List Int) (ho : Octs zs) (hl : zs.length ≤ 140737488351232) (w : World) :
    Calls Try.prog 6 #[.string (strOfNums (hexs zs))] w fun e w' => ∃ A c, e = .returned (.tuple #[.slice A zs.length c, .int .i64 0]) ∧ RdB w' A zs ∧ zs.length ≤ c ∧ Below w.heap.size w w' := by
  obtain ⟨xs, h1, h2⟩ := pairs_of zs ho
  have h3 : xs.length = zs.length := by rw [← h2]; simp [unh]
  have := callsIn_wide.1 (unhex_in xs (by omega) w)
  rw [h1, h2, h3] at this
  exact this

end Go.Proofs.Ytedhahonanfnaaa

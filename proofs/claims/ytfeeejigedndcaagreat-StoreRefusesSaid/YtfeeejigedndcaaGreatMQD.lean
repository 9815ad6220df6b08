/-
  Collect of the sectors of a store. Conditions: at most 17,592,200,000,000 of them.
-/
import Derived.Test.YtfeeejigedndcaaGreatMQC
import Derived.Test.YtfeeejigedndcaaGreatMDVC
import Derived.Test.YtfeeejigedndcaaGreatMQM
import Derived.Deep.QuietTactic
import Derived.BigQuiet
import Derived.Deep.DeepAppendWide
namespace Go.Proofs.YtfeeejigedndcaaGreat
open Go.ChangeShapes Go.WideShapes Go.ChangeAt Go.RowKit Go.Shelf
set_option maxRecDepth 100000
attribute [local go_sem] Oper.semAt_some

def ints (zs : List Int) : List Value := zs.map (Value.int .i64)
theorem ints_length (zs : List Int) : (ints zs).length = zs.length := by simp [ints]
theorem ints_snoc (zs : List Int) (x : Int) : ints (zs ++ [x]) = ints zs ++ [.int .i64 x] := by simp [ints]

theorem own_other2 {W W' : World} {base n size : Nat} {e : TypeId} {v : Value} {xs : List Value} {row : Option Nat} (h : W.ownsRow base e size v n xs) (hg : W.grownBy W' row) (hr : ∀ r, row = some r → ∃ o : Obj, W.heap[r]? = some o ∧ o.isCells = false) : W'.ownsRow base e size v n xs := by
  refine h.kept hg ?_
  rcases h.2 with ⟨rfl, _⟩ | ⟨g, cap, cur, rfl, _, hgb, _⟩
  · exact .inl rfl
  · refine .inr fun e' => ?_
    obtain ⟨o, ho, hc⟩ := hr g e'.symm
    rw [hgb] at ho; cases ho; cases hc

/-- A row of the call's own is a slice that reads so. -/
theorem own_any {w : World} {base : Nat} {e : TypeId} {size n : Nat} {v : Value} {vs : List Value} (h : w.ownsRow base e size v n vs) :
    ∃ A c, v = .slice A n c ∧ n ≤ c ∧ (A = none → c = 0) ∧ RdF base w A vs ∧ (A = none → n = 0) := by
  rcases h.2 with ⟨rfl, rfl⟩ | ⟨g, cap, cur, rfl, _, _, hn, _⟩
  · exact ⟨none, 0, rfl, Nat.le_refl _, fun _ => rfl, RdF.of_own h, fun _ => rfl⟩
  · exact ⟨_, cap, rfl, hn, (fun e => nomatch e), RdF.of_own h, (fun e => nomatch e)⟩
theorem below_drewN (w : World) (n m : Nat) : Below m w (w.drewN n) := ⟨rfl, rfl, rfl, Nat.le_refl _, fun _ _ => rfl⟩

/-- append onto a row of the call's own, up to growslice's own bound, in a round of a range over a function. -/
theorem in_append_wide {F : Fence} {d : Nat} {P : Program} (w : World) {ops : Array Oper} {rest : List Oper} {o : Oper} {a : Act} {Q : Exit → Act → World → Prop} (hgd : o.guard = none)
    (s x : Operand) (t : TypeId) (ho : o.op = .call { callee := .builtin .append, args := #[s, x], argTypes := #[t, t] })
    (base : Nat) (e : TypeId) (i : TypeInfo) (z : Value) (size bytes : Nat) (ht : P.underlying t = some (.slice e)) (hi : P.info? e = some i) (hz : i.zero = some z) (hsize : i.size = size) (hby : i.bytes = bytes) (hzs : z.cells.size = size) (hsz : 0 < size)
    (v : Value) (n : Nat) (xs : List Value) (hs : a.eval s = v) (hown : w.ownsRow base e size v n xs) (ad : Addr) (m c : Nat) (news : List Value) (hx : a.eval x = .slice (some ad) m c) (hl : news.length = m * size)
    (hnews : ∀ j u, news[j]? = some u → w.cell? (ad.add j) = some u) (h1 : ∀ u ∈ news, u.oneCell' = true) (h63 : n + m ≤ maxLen) (hb : ((n + m) + (n + m) / 4 + 192) * bytes ≤ 281474976710656) (hbase : base ≤ w.heap.size)
    (K : ∀ v' w', w'.ownsRow base e size v' (n + m) (xs ++ news) → w.grownBy w' v.ownBlock → (v' = .slice none 0 0 ↔ v = .slice none 0 0 ∧ m = 0) → wpListIn F d P ops Q rest (a.put o.dst v') w') :
    wpListIn F d P ops Q (o :: rest) a w := by
  obtain ⟨v', w', hr, g1, g2, g3⟩ := run_append_own_wide (P := P) w base t o.type e i z size bytes ht hi hz hsize hby hzs hsz v n xs hown ad m c news hl hnews h1 h63 hb hbase
  refine wpListIn_plain hgd fun K' hK' => ?_
  unfold Oper.wpIn
  refine ⟨by simp [Oper.about, ho, resolve, Target.leads, Sem.run_pure], ?_⟩
  rw [Oper.semAt_plain F _ _ (fun c hc => by rw [ho] at hc; cases hc)]
  simp only [execOp, ho, resolve, invoke, builtin, Sem.run_bind, Sem.run_pure, Result.andThen_ok, List.map_toArray, List.map_cons, List.map_nil, hs, hx, hr]
  exact hK' _ _ (K v' w' g1 g2 g3)

/-- What holds between two rounds. -/
def CoJ (w : World) (B : Nat) (pre : List Int) (W : World) : Prop :=
  ∃ v, Boxed W B 30 v ∧ W.ownsRow w.heap.size 3 1 v pre.length (ints pre) ∧ Below w.heap.size w W
theorem coJ_own (w : World) (B L : Nat) (hL : w.heap.size ≤ L) : OwnFrom L (fun (pre : List Int) W => CoJ w B pre W) := by
  rintro s W W' row ⟨v, hb, ho, hB⟩ hg hr
  refine ⟨v, hb.kept hg (fun e => ?_), own_other2 ho hg (fun r e => (hr r e).2), hB.grown hg hB.size (fun k e => Nat.le_trans hL (hr k e).1)⟩
  obtain ⟨o, ho, hc⟩ := (hr B e.symm).2
  rw [show W.heap[B]? = _ from hb] at ho
  cases ho
  cases hc
theorem CoJ.step {w : World} {B L m : Nat} {pre : List Int} {x : Int} {W w3 : World} {v v' : Value} (hm : m ≤ w.heap.size)
    (hv : Boxed W B 30 v) (ho : W.ownsRow w.heap.size 3 1 v pre.length (ints pre)) (hB : Below w.heap.size w W) (hBw : w.heap.size ≤ B)
    (hown : w3.ownsRow w.heap.size 3 1 v' (pre.length + 1) (ints pre ++ [.int .i64 x])) (hgrow : (W.alloc (.cells #[.int .i64 x] 3)).grownBy w3 v.ownBlock) :
    KeepsFrom L W (w3.setCell ⟨B, 0, none⟩ v') ∧ KeepsLo m W (w3.setCell ⟨B, 0, none⟩ v') ∧ CoJ w B (pre ++ [x]) (w3.setCell ⟨B, 0, none⟩ v') := by
  have hB2 : Below W.heap.size W (W.alloc (.cells #[.int .i64 x] 3)) := (Below.refl _ _).alloc (Nat.le_refl _) _
  have ho2 := own_below ho hB2 (Nat.le_refl _)
  have hv2 : Boxed (W.alloc (.cells #[.int .i64 x] 3)) B 30 v := (hB2.block B hv.lt).trans hv
  generalize hw2 : W.alloc (.cells #[.int .i64 x] 3) = w2 at *
  have hv3 : Boxed w3 B 30 v := hv2.kept hgrow (hv2.not_row (by decide) ho2)
  have hne3 : some B ≠ v'.ownBlock := hv3.not_row (by decide) hown
  have hcell : ∀ (j : Nat) (o : Obj), v.ownBlock = some j → w2.heap[j]? = some o → o.isCells = true := by
    intro j o hj ho'
    rcases ho2.2 with ⟨rfl, _⟩ | ⟨g, cap, cur, rfl, _, hh, _⟩
    · cases hj
    · simp [Value.ownBlock] at hj
      subst hj
      rw [hh] at ho'
      cases ho'
      rfl
  have hBt : Below w.heap.size w (w3.setCell ⟨B, 0, none⟩ v') := ((hB.trans (hB2.mono hB.size)).grown hgrow (Nat.le_trans hB.size hB2.size) (fun k e => (ho.lt k e).1)).setCell (p := ⟨B, 0, none⟩) hBw _
  refine ⟨?_, fun b hb => ?_, v', hv3.set v', ?_, hBt⟩
  · have k1 : KeepsOthers W w2 := ⟨hB2.size, fun k o hk _ => (hB2.block k (Array.getElem?_eq_some_iff.1 hk).1).trans hk⟩
    exact ((k1.trans (KeepsOthers.of_grownBy hgrow hcell)).trans (KeepsOthers.setCell _ _ _)).from L
  · refine KeepsBlk.trans (fun o u hu => (hB2.cell (p := ⟨b, o, none⟩) (World.block_lt_of_cell? W ⟨b, o, none⟩ hu)).trans hu) (KeepsBlk.trans (KeepsBlk.grown hgrow ?_) (KeepsBlk.grown (grownBy_setCell' w3 B v') ?_))
    · intro e
      have := (ho.lt b e.symm).1
      omega
    · intro e
      injection e with e
      omega
  · rw [List.length_append, ints_snoc]
    exact hown.kept (grownBy_setCell' w3 B v') (.inr (fun e => hne3 e.symm))

set_option maxHeartbeats 2000000 in
theorem appendSeq_any (m Bn : Nat) (O : Option Addr) (os : List Ob) (oc : Nat) (I : Option Addr) (is : List Int) (ic : Nat) (hol : os.length ≤ 4398046511104) (hnl : ∀ o ∈ os, o.ns.length ≤ 17592186044416) (hil : is.length ≤ 17592186044416)
    (htot : (flatNs os ++ is).length ≤ 17592200000000) (w : World) (hm : m ≤ w.heap.size) (hS : SecIn m Bn O os oc I is ic w) :
    Calls Tryz.prog 72 #[.slice none 0 0, .func (.func 67) #[] #[.pointer (some ⟨Bn, 0, none⟩)]] w fun e w' => ∃ v, e = .returned v ∧ w'.ownsRow w.heap.size 3 1 v (flatNs os ++ is).length (ints (flatNs os ++ is)) ∧ Below w.heap.size w w' := by
  obtain ⟨i0, hi, hz0, hz1, hz2⟩ := info_parts qinfo3
  obtain ⟨w1, hw1⟩ : ∃ w1, w.alloc (.cells #[.slice none 0 0] 30) = w1 := ⟨_, rfl⟩
  have hB1 : Below w.heap.size w w1 := hw1 ▸ (Below.refl _ w).alloc (Nat.le_refl _) _
  have bO : Boxed w1 w.heap.size 30 (.slice none 0 0) := hw1 ▸ Boxed.new w _ _
  have hs1 : w1.heap.size = w.heap.size + 1 := by rw [← hw1, World.size_alloc]
  have hS1 := hS.keeps (KeepsLo.below hB1)
  have HJ0 : Hid (CoJ w w.heap.size [] w1) := Lib.hid ⟨_, bO, own_none _ _ _, hB1⟩
  have HW1 := Lib.hid hw1
  clear hS bO hw1
  refine (callsIn_wide (n := 4)).1 ?_
  refine callsIn_of_wp_marks Tryz.func72 rfl trivial ?_ rfl
  simp only [Tryz.ntmps72, List.size_toArray, List.length_cons, List.length_nil, Nat.reduceAdd, Nat.reduceSub, Array.replicate_succ, Array.replicate_zero, List.push_toArray, List.append_toArray, List.nil_append, List.cons_append]
  gi_wp2
  rw [HW1.out]
  refine wpIn_rangeFunc_ownG rfl (by omega) (gf := 67) (lb := #[.pointer (some ⟨Bn, 0, none⟩)]) rfl trivial (enters_of Tryz.func67 (by kernel_rfl) rfl)
    (sectors_stops 3 m Bn O os oc I is ic hol hnl hil w1 hS1)
    KeepsLo.trans (fun W l o o' _ h hc _ => KeepsLo.putObj W l o o' h hc) (Below.refl _ _) (fun _ => rfl)
    (fun pre W => CoJ w w.heap.size pre W)
    (fun _ _ _ => False)
    (coJ_own w w.heap.size _ (by omega))
    (fun _ _ _ _ _ hs _ _ => hs)
    HJ0.out
    (fun x => { tmps := #[.slice none 0 0, .func (.func 67) #[] #[.pointer (some ⟨Bn, 0, none⟩)], .pointer (some ⟨w.heap.size, 0, none⟩), undef, .slice none 0 0, .int .i64 x, .func (.func 67) #[] #[.pointer (some ⟨Bn, 0, none⟩)], .int .i64 x, undef, undef, undef, undef, undef], defers := [] }) ?assign ?body ?done ?stop
  case assign =>
    intro l x W K hK
    gi_wp2
    exact hK
  case body =>
    rintro l pre x W ⟨v, hv, hrow, hB⟩ hpn
    have HV := Lib.hid hv
    have HROW := Lib.hid hrow
    have hBl := hv.lt
    have hBs := hB.size
    have hc := hv.cell
    clear hv hrow
    gi_wp2_with (first
      | (gi_at_builtin; refine in_append_wide _ rfl _ _ 30 rfl w.heap.size 3 i0 (.int .i64 0) 1 8 Tryz.underlying30 hi hz0 hz1 hz2 rfl (by decide) v pre.length (ints pre) rfl (own_below HROW.out ((Below.refl _ _).alloc (Nat.le_refl _) _) (Nat.le_refl _)) ⟨W.heap.size, 0, none⟩ 1 1 [.int .i64 x] rfl rfl (by exact cell_one_new _ _ _) (by simp [Value.oneCell']) (by unfold maxLen; omega) (by omega) (by simp; omega) ?_; intro v' w3 hown' hgrow _; obtain ⟨g', cap', rfl, _, _⟩ := hown'.form (by omega); have hv3 := (HV.out.alloc (.cells #[.int .i64 x] 3)).kept hgrow ((HV.out.alloc (.cells #[.int .i64 x] 3)).not_row (by decide) (own_below HROW.out ((Below.refl _ _).alloc (Nat.le_refl _) _) (Nat.le_refl _))); have hc3 := hv3.cell; have hf3 := hv3.frozen))
    exact CoJ.step hm HV.out HROW.out hB (Nat.le_refl _) hown' hgrow
  case done =>
    rintro D ys W hD hS ⟨v, hv, hrow, hB⟩ hK
    subst hS
    have hc := hv.cell
    have HROW := Lib.hid hrow
    clear hrow
    gi_wp2
    refine ⟨by simp, .inl ⟨_, _, rfl, run_takeDeferred hK, ?_⟩⟩
    exact ⟨_, results_tmp rfl _ _ _, v, rfl, ownsRow_putObj HROW.out _ hK rfl, hB.trans (belowK_b (w := w) (Nat.le_refl _) W D _ (.deferred none) (by omega) hK rfl rfl)⟩
  case stop =>
    rintro D c pre W _ _ h _
    exact h.elim

end Go.Proofs.YtfeeejigedndcaaGreat

namespace Go.Proofs.YtfeeejigedndcaaGreat
open Go.ChangeShapes Go.WideShapes Go.ChangeAt Go.RowKit
set_option maxRecDepth 100000

theorem checkObjects_any (A : Option Addr) (c : Nat) (l : List Ob) (hl : l.length ≤ 4398046511104) (hf : ∀ o ∈ l, o.key.size ≤ maxLen ∧ o.d.zs.length ≤ 140737488351232) (w : World) (hr : Rd w A (obCells l)) :
    Calls Tryz.prog 41 #[.slice A l.length c] w fun e w' => e = .returned (.int .i64 (objE (l.map Ob.st))) ∧ Below w.heap.size w w' := by
  obtain ⟨R, hR⟩ : ∃ R, objE (l.map Ob.st) = R := ⟨_, rfl⟩
  rw [hR]
  by_cases h256 : 256 < l.length
  · have : R = 3 := by rw [← hR]; unfold objE; rw [if_pos (by simpa using h256)]
    subst this
    clear hR
    go_enter Tryz.func41, Tryz.ntmps41
    go_wp2
    go_ret
    exact ⟨rfl, Below.refl _ _⟩
  · have hle : l.length ≤ 256 := by omega
    go_enter Tryz.func41, Tryz.ntmps41
    go_wp2
    go_loopw [3, 13] (fun last i W => ∃ k : Nat, ∃ s : ByteArray, k ≤ l.length ∧ i = .int .i64 k ∧ last = .string s ∧ Hid (riseK s ((l.map (·.key)).drop k) = riseK ByteArray.empty (l.map (·.key))) ∧ Below w.heap.size w W) (fun last i _ => l.length - (intOf i).toNat)
    case atStart => exact ⟨0, ByteArray.empty, Nat.zero_le _, rfl, rfl, Lib.hid rfl, Below.refl _ _⟩
    case round =>
      obtain ⟨k, s, hk, rfl, rfl, HD, hB⟩ := hrel
      by_cases hlt : k < l.length
      · obtain ⟨o, ho⟩ : ∃ o, l[k]? = some o := ⟨l[k], List.getElem?_eq_getElem hlt⟩
        obtain ⟨b, off, rfl, hb, hc0, hc1, hc2⟩ := (Rd.below hr hB).ob ho
        have hdr : (l.map (·.key)).drop k = o.key :: (l.map (·.key)).drop (k + 1) := dropA _ (by rw [List.getElem?_map, ho]; rfl)
        rw [hdr] at HD
        have hB5 : Below w.heap.size w (wr.alloc (.cells #[.string o.key, o.d.val, .slice o.B o.ns.length o.e] 58)) := hB.alloc hB.size _
        by_cases hcmp : (Op.bytesLess o.key.toList s.toList || o.key.toList == s.toList) = true
        · have HR : Hid (R = 31) := by
            have := HD.out
            rw [riseK, hcmp] at this
            refine Lib.hid ?_
            rw [← hR]; unfold objE; rw [if_neg (by simpa using hle), List.map_map, if_pos (by exact this.symm)]
          clear HD hR hdr
          go_wp2
          go_ret
          rw [HR.out]
          exact ⟨rfl, hB5⟩
        · by_cases h96 : (96 : Int) < o.key.size
          · have HR : Hid (R = 31) := by
              have := HD.out
              rw [riseK, decide_eq_false (show ¬ o.key.size ≤ 96 by omega)] at this
              simp only [Bool.false_and, Bool.and_false] at this
              refine Lib.hid ?_
              rw [← hR]; unfold objE; rw [if_neg (by simpa using hle), List.map_map, if_pos (by exact this.symm)]
            have hks : o.key.size ≤ maxLen := (hf o (List.mem_of_getElem? ho)).1
            unfold maxLen at hks
            clear HD hR hdr hf
            go_wp2
            go_ret
            rw [HR.out]
            exact ⟨rfl, hB5⟩
          · have HD' : Hid (riseK o.key ((l.map (·.key)).drop (k + 1)) = riseK ByteArray.empty (l.map (·.key))) := by
              have := HD.out
              rw [riseK, decide_eq_true (show o.key.size ≤ 96 by omega), (Bool.not_eq_true _).mp hcmp] at this
              exact Lib.hid (by simpa using this)
            clear HD hdr
            go_wp2
            go_round
            case rel => exact ⟨k + 1, o.key, by omega, by go_num, rfl, HD', by first | exact hB5 | trivial⟩
            case measure => simp [intOf]; omega
      · have hkl : k = l.length := by omega
        have HRi : Hid (riseK ByteArray.empty (l.map (·.key)) = true) := by
          have := HD.out
          rw [List.drop_eq_nil_of_le (by simp; omega), riseK] at this
          exact Lib.hid this.symm
        clear HD
        go_wp2
        go_loopw [32] (fun i W => ∃ k : Nat, k ≤ l.length ∧ i = .int .i64 k ∧ Hid (∀ o ∈ l.take k, o.d.zs.length ≤ 65536) ∧ Below w.heap.size w W) (fun i _ => l.length - (intOf i).toNat)
        case atStart => exact ⟨0, Nat.zero_le _, rfl, Lib.hid (by simp), by first | exact hB | trivial⟩
        case round =>
          obtain ⟨k, hk, rfl, HD, hB⟩ := hrel
          by_cases hlt : k < l.length
          · obtain ⟨o, ho⟩ : ∃ o, l[k]? = some o := ⟨l[k], List.getElem?_eq_getElem hlt⟩
            obtain ⟨b, off, rfl, hb, hc0, hc1, hc2⟩ := (Rd.below hr hB).ob ho
            have hB5 : Below w.heap.size w (wr.alloc (.cells #[.string o.key, o.d.val, .slice o.B o.ns.length o.e] 58)) := hB.alloc hB.size _
            have hds : o.d.zs.length ≤ 140737488351232 := (hf o (List.mem_of_getElem? ho)).2
            by_cases hbig : (65536 : Int) < o.d.zs.length
            · have HR : Hid (R = 5) := by
                refine Lib.hid ?_
                rw [← hR]; unfold objE
                rw [if_neg (by simpa using hle), List.map_map, if_neg (by rw [show (fun x : PO => x.key) ∘ Ob.st = fun o : Ob => o.key from rfl, HRi.out]; simp), if_neg]
                intro hall
                rw [List.all_eq_true] at hall
                have := hall o.st (List.mem_map.2 ⟨o, List.mem_of_getElem? ho, rfl⟩)
                simp at this
                omega
              clear HD hR hf HRi
              go_wp2
              go_ret
              rw [HR.out]
              exact ⟨rfl, hB5⟩
            · have HD' : Hid (∀ o ∈ l.take (k + 1), o.d.zs.length ≤ 65536) := by
                refine Lib.hid fun x hx => ?_
                rw [List.take_add_one, ho] at hx
                rcases List.mem_append.1 hx with hx | hx
                · exact HD.out x hx
                · simp at hx; subst hx; omega
              clear HD
              go_wp2
              go_round
              case rel => exact ⟨k + 1, by omega, by go_num, HD', by first | exact hB5 | trivial⟩
              case measure => simp [intOf]; omega
          · have HR : Hid (R = 0) := by
              refine Lib.hid ?_
              rw [← hR]; unfold objE
              rw [if_neg (by simpa using hle), List.map_map, if_neg (by rw [show (fun x : PO => x.key) ∘ Ob.st = fun o : Ob => o.key from rfl, HRi.out]; simp), if_pos]
              rw [List.all_eq_true]
              rintro x hx
              obtain ⟨o, ho, rfl⟩ := List.mem_map.1 hx
              have := HD.out o (by rw [List.take_of_length_le (by omega)]; exact ho)
              simpa using this
            clear HD hR hf HRi
            go_wp2
            go_ret
            rw [HR.out]
            exact ⟨rfl, by first | exact hB | assumption⟩

end Go.Proofs.YtfeeejigedndcaaGreat

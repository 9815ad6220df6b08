/-
  slices.ContainsFunc and every over api.Set, whatever closure. No conditions but those written.
-/
import Derived.Test.YtgcncanpgefhjaaGreatMSX
import Derived.Test.YtgcncanpgefhjaaGreatMTNT
import Derived.Test.YtgcncanpgefhjaaGreatMRL
import Derived.Test.YtgcncanpgefhjaaGreatMGO
import Derived.Test.YtgcncanpgefhjaaGreatMSL
import Derived.Test.YtgcncanpgefhjaaGreatLayH
import Derived.BigQuiet
import Derived.Deep.WholeRow
namespace Go.Proofs.YtgcncanpgefhjaaGreat
open Go.ChangeShapes Go.WideShapes Go.ChangeAt Go.RowKit
set_option maxRecDepth 100000

theorem contains_Set (p : MSet → Bool) (g : Nat) (lb : Array Value) (eg : Enters Tryz.prog g) (A : Option Addr) (c n : Nat) (l : List MSet) (hn : l.length = n) (w : World)
    (hp : ∀ (W : World) (x : MSet), x ∈ l → Below w.heap.size w W → Calls Tryz.prog g (#[.agg x.cells.toArray] ++ lb) W fun e w' => e = .returned (.bool (p x)) ∧ Below W.heap.size W w') (hl : n ≤ 4398046511104) (hr : Rd w A (l.flatMap MSet.cells)) :
    Calls Tryz.prog 115 #[.slice A n c, .func (.func g) #[] lb] w fun e w' => e = .returned (.bool (l.any p)) ∧ Below w.heap.size w w' := by
  have HI := indexMem Tryz.indexSet 5 Tryz.isAgg42 Tryz.sizeOf42 MSet.cells (fun _ => rfl) (by omega) p g lb eg A c n l hn w hp (by omega) hr
  change Calls _ 59 _ _ _ at HI
  have HI' := Lib.hid HI
  rw [← findI_any]
  obtain ⟨F, hF⟩ : ∃ F, findI p l = F := ⟨_, rfl⟩
  rw [hF] at HI' ⊢
  clear HI hF hp hr
  go_enter Tryz.func115, Tryz.ntmps115
  go_wp2_with fail
  refine HI'.out.mono ?_
  rintro e w2 ⟨rfl, hB⟩
  go_wp2
  go_ret
  exact ⟨rfl, hB⟩

theorem every1_Set (v : Bool) (g : Nat) (lb : Array Value) (eg : Enters Tryz.prog g) (B0 : Nat) (x : MSet) (w : World) (h0 : w.cell? ⟨B0, 0, none⟩ = some (.func (.func g) #[] lb))
    (hp : ∀ (W : World), Below w.heap.size w W → Calls Tryz.prog g (#[.agg x.cells.toArray] ++ lb) W fun e w' => e = .returned (.bool v) ∧ Below W.heap.size W w') :
    Calls Tryz.prog 116 #[.agg x.cells.toArray, .pointer (some ⟨B0, 0, none⟩)] w fun e w' => e = .returned (.bool (!v)) ∧ Below w.heap.size w w' := by
  have eg' : ∀ args w, (callFunc g args).run Tryz.prog w = .ok (.enter g args) w := eg
  have hl := World.block_lt_of_cell? w ⟨B0, 0, none⟩ h0
  obtain ⟨w1, hw1⟩ : ∃ w1, w.alloc (.cells #[.string x.path_, .string x.origin_, .slice x.body_.A x.body_.l.length x.body_.c, .slice x.snaps_.A x.snaps_.l.length x.snaps_.c, .slice x.own_.A x.own_.l.length x.own_.c] 42) = w1 := ⟨_, rfl⟩
  have hB1 : Below w.heap.size w w1 := hw1 ▸ (Below.refl _ w).alloc (Nat.le_refl _) _
  have k1 : Blk w1 w.heap.size 42 [.string x.path_, .string x.origin_, .slice x.body_.A x.body_.l.length x.body_.c, .slice x.snaps_.A x.snaps_.l.length x.snaps_.c, .slice x.own_.A x.own_.l.length x.own_.c] := hw1 ▸ Blk.new w _ _
  have h0' : w1.cell? ⟨B0, 0, none⟩ = some (.func (.func g) #[] lb) := by
    rw [hB1.cell (p := ⟨B0, 0, none⟩) hl]
    exact h0
  have z0 := k1.cell 0
  have z1 := k1.cell 1
  have z2 := k1.cell 2
  have z3 := k1.cell 3
  have z4 := k1.cell 4
  simp only [List.getElem?_cons_zero, List.getElem?_cons_succ] at z0 z1 z2 z3 z4
  have HP := Lib.hid (hp w1 hB1)
  have HW1 := Lib.hid hw1
  clear hp hw1 k1
  go_enter Tryz.func116, Tryz.ntmps116
  go_wp2_with fail
  rw [HW1.out]
  first
    | refine HP.out.mono ?_
    | (go_wp2_with fail; refine HP.out.mono ?_)
  rintro e w2 ⟨rfl, hB2⟩
  cases v
  all_goals
    go_wp2
    go_ret
    exact ⟨rfl, hB1.trans (hB2.mono hB1.size)⟩

theorem every_Set (p : MSet → Bool) (g : Nat) (lb : Array Value) (eg : Enters Tryz.prog g) (A : Option Addr) (c n : Nat) (l : List MSet) (hn : l.length = n) (w : World)
    (hp : ∀ (W : World) (x : MSet), x ∈ l → Below w.heap.size w W → Calls Tryz.prog g (#[.agg x.cells.toArray] ++ lb) W fun e w' => e = .returned (.bool (p x)) ∧ Below W.heap.size W w') (hl : n ≤ 4398046511104) (hr : Rd w A (l.flatMap MSet.cells)) :
    Calls Tryz.prog 89 #[.slice A n c, .func (.func g) #[] lb] w fun e w' => e = .returned (.bool (l.all p)) ∧ Below w.heap.size w w' := by
  obtain ⟨w1, hw1⟩ : ∃ w1, w.alloc (.cells #[.func (.func g) #[] lb] 97) = w1 := ⟨_, rfl⟩
  have hB1 : Below w.heap.size w w1 := hw1 ▸ (Below.refl _ w).alloc (Nat.le_refl _) _
  have k1 : Blk w1 w.heap.size 97 [.func (.func g) #[] lb] := hw1 ▸ Blk.new w _ _
  have HC := Lib.hid (contains_Set (fun x => !(p x)) 116 #[.pointer (some ⟨w.heap.size, 0, none⟩)] (enters_of Tryz.func116 (by kernel_rfl) rfl) A c n l hn w1
    (fun W x hx hB => every1_Set (p x) g lb eg w.heap.size x W ((k1.below hB k1.lt).cell 0) fun W' hB' => hp W' x hx (hB1.trans ((hB.trans (hB'.mono hB.size)).mono hB1.size))) hl (hr.below hB1))
  have e : l.any (fun x => !(p x)) = !(l.all p) := by
    rw [List.not_all_eq_any_not]
  rw [e] at HC
  obtain ⟨R, hR⟩ : ∃ R, l.all p = R := ⟨_, rfl⟩
  rw [hR] at HC ⊢
  have HW1 := Lib.hid hw1
  clear hR e hp hr k1 hw1
  go_enter Tryz.func89, Tryz.ntmps89
  go_wp2_with fail
  rw [HW1.out]
  go_wp2_with fail
  refine HC.out.mono ?_
  rintro e w2 ⟨rfl, hB2⟩
  cases R
  all_goals
    go_wp2
    go_ret
    exact ⟨rfl, hB1.trans (hB2.mono hB1.size)⟩

end Go.Proofs.YtgcncanpgefhjaaGreat

namespace Go.Proofs.YtgcncanpgefhjaaGreat
open Go.ChangeShapes Go.WideShapes Go.ChangeAt Go.RowKit
set_option maxRecDepth 100000

/-- Rows of other kinds than e stay. -/
def Keeps (e : TypeId) (W W' : World) : Prop := ∀ (b : Nat) (cur : Array Value) (e' : TypeId), W.heap[b]? = some (Obj.cells cur e' (0, 0)) → e' ≠ e → W'.heap[b]? = W.heap[b]?
theorem own_keeps {W W' : World} {n size k : Nat} {e e' : TypeId} {v : Value} {xs : List Value} (h : W.ownsRow n e' size v k xs) (hne : e' ≠ e) (hk : Keeps e W W') : W'.ownsRow n e' size v k xs := by
  rcases h with ⟨h0, h1 | ⟨g, cap, cur, hv, hn, hb, h2, h3, h4, h5⟩⟩
  · exact ⟨h0, .inl h1⟩
  · exact ⟨h0, .inr ⟨g, cap, cur, hv, hn, (hk g cur e' hb hne).trans hb, h2, h3, h4, h5⟩⟩

/-- append of one element: what is kept of other rows, too. -/
theorem wpAppendK {P : Program} {α : Type} {W : World} {ops : Array Oper} {rest : List Oper} {o : Oper} {a : Act} {Q : Exit → Act → World → Prop} {s x : Operand} {t e : TypeId} (hgd : o.guard = none)
    (ho : o.op = .call { callee := .builtin .append, args := #[s, x], argTypes := #[t, t] }) (ht : P.underlying t = some (.slice e)) {k bytes : Nat} {z : Value} (cells : α → List Value) (hk : ∀ a, (cells a).length = k) (hk0 : 0 < k) (hone : ∀ a, ∀ u ∈ cells a, u.oneCell' = true)
    (hinfo : (P.info? e).map (fun i => (i.zero, i.size, i.bytes)) = some (some z, k, bytes)) (hz : z.cells.size = k) {base : Nat} {w0 : World} {Av : Option Addr} {cv : Nat} {l : List α} (hB : Below base w0 W) (hsz : base ≤ W.heap.size)
    (hown : W.ownsRow base e k (.slice Av l.length cv) l.length (l.flatMap cells)) (y : α) (hs : a.eval s = .slice Av l.length cv) (hx : a.eval x = .slice (some ⟨W.heap.size, 0, none⟩) 1 1) (h63 : l.length + 1 ≤ maxLen) (hbytes : (l.length + 1) * bytes ≤ 140737488355328)
    (h : ∀ g c w', Hid (w'.ownsRow base e k (.slice (some ⟨g, 0, none⟩) (l.length + 1) c) (l ++ [y]).length ((l ++ [y]).flatMap cells)) → Hid (Below base w0 w') → Hid (Keeps e W w') → wpList P ops Q rest (a.put o.dst (.slice (some ⟨g, 0, none⟩) (l.length + 1) c)) w') :
    wpList P ops Q (o :: rest) a (W.alloc (.cells (cells y).toArray e)) := by
  obtain ⟨i0, hi, hz0, hz1, hz2⟩ := infoParts hinfo
  refine wpList_append_lies _ hgd s x t ho base e i0 z k bytes ht hi hz0 hz1 hz2 hz hk0 (.slice Av l.length cv) l.length (l.flatMap cells) hs (ownBelow hown ((Below.refl _ _).alloc (Nat.le_refl _) _) (Nat.le_refl _)) ⟨W.heap.size, 0, none⟩ 1 1 (cells y) hx (by rw [hk, Nat.one_mul]) (newsNew _ _ _) (hone y) (by omega) h63 hbytes (by simp; omega) _ rfl ?_
  intro g c w' ho' hg' _ _
  refine h g c w' (Lib.hid ?_) (Lib.hid ((hB.alloc hsz _).grown hg' (by simp; omega) (fun j e => (hown.lt j e).1))) (Lib.hid fun b cur e' hb hne => ?_)
  · rw [List.length_append, List.flatMap_append]
    simpa using ho'
  · have hlt : b < W.heap.size := (Array.getElem?_eq_some_iff.1 hb).1
    have hnb : (Value.slice Av l.length cv).ownBlock ≠ some b := by
      intro e2
      rcases hown with ⟨_, ⟨hv, _⟩ | ⟨g2, cap, cur2, hv, _, hb2, _⟩⟩
      · rw [hv] at e2
        cases e2
      · rw [hv] at e2
        injection e2 with e2
        subst e2
        rw [hb] at hb2
        injection hb2 with hb2
        injection hb2 with _ h6 _
        exact hne h6
    have h1 : (W.alloc (.cells (cells y).toArray e)).heap[b]? = W.heap[b]? := ((Below.refl W.heap.size W).alloc (Nat.le_refl _) _).block b hlt
    rw [← h1]
    exact hg'.block b (by simp; omega) (fun e3 => hnb e3.symm)

/-- A snapshot in rows of the call's own. -/
structure OwnSn (n : Nat) (W : World) (y : MSnap) : Prop where
  body : W.ownsRow n 76 2 y.body_.val y.body_.l.length (y.body_.l.flatMap bkC)
  tags : W.ownsRow n 9 1 y.tags_.val y.tags_.l.length (y.tags_.l.flatMap fun s => [Value.string s])
  own : W.ownsRow n 78 2 y.own_.val y.own_.l.length (y.own_.l.flatMap prC)
structure OwnSe (n : Nat) (W : World) (y : MSet) : Prop where
  body : W.ownsRow n 76 2 y.body_.val y.body_.l.length (y.body_.l.flatMap bkC)
  snaps : W.ownsRow n 54 5 y.snaps_.val y.snaps_.l.length (y.snaps_.l.flatMap MSnap.cells)
  own : W.ownsRow n 78 2 y.own_.val y.own_.l.length (y.own_.l.flatMap prC)
  each : ∀ s ∈ y.snaps_.l, OwnSn n W s
structure OwnSt (n : Nat) (W : World) (y : MStage) : Prop where
  body : W.ownsRow n 76 2 y.body_.val y.body_.l.length (y.body_.l.flatMap bkC)
  own : W.ownsRow n 78 2 y.begin_.own_.val y.begin_.own_.l.length (y.begin_.own_.l.flatMap prC)
structure OwnTe (n : Nat) (W : World) (y : MTenant) : Prop where
  sets : W.ownsRow n 42 5 y.sets_.val y.sets_.l.length (y.sets_.l.flatMap MSet.cells)
  grants : W.ownsRow n 67 3 y.grants_.val y.grants_.l.length (y.grants_.l.flatMap grC)
  stages : W.ownsRow n 61 21 y.stages_.val y.stages_.l.length (y.stages_.l.flatMap MStage.cells)
  log : W.ownsRow n 73 4 y.log_.val y.log_.l.length (y.log_.l.flatMap MEntry.cells)
  eset : ∀ s ∈ y.sets_.l, OwnSe n W s
  estage : ∀ s ∈ y.stages_.l, OwnSt n W s
theorem OwnSn.below {n : Nat} {W W' : World} {y : MSnap} (h : OwnSn n W y) (hB : Below W.heap.size W W') : OwnSn n W' y := ⟨ownBelow h.body hB (Nat.le_refl _), ownBelow h.tags hB (Nat.le_refl _), ownBelow h.own hB (Nat.le_refl _)⟩
theorem OwnSe.below {n : Nat} {W W' : World} {y : MSet} (h : OwnSe n W y) (hB : Below W.heap.size W W') : OwnSe n W' y := ⟨ownBelow h.body hB (Nat.le_refl _), ownBelow h.snaps hB (Nat.le_refl _), ownBelow h.own hB (Nat.le_refl _), fun s hs => (h.each s hs).below hB⟩
theorem OwnSt.below {n : Nat} {W W' : World} {y : MStage} (h : OwnSt n W y) (hB : Below W.heap.size W W') : OwnSt n W' y := ⟨ownBelow h.body hB (Nat.le_refl _), ownBelow h.own hB (Nat.le_refl _)⟩
theorem OwnSn.base {n n' : Nat} {W : World} {y : MSnap} (h : OwnSn n W y) (hn : n' ≤ n) : OwnSn n' W y := ⟨ownBase h.body hn, ownBase h.tags hn, ownBase h.own hn⟩
theorem OwnSe.base {n n' : Nat} {W : World} {y : MSet} (h : OwnSe n W y) (hn : n' ≤ n) : OwnSe n' W y := ⟨ownBase h.body hn, ownBase h.snaps hn, ownBase h.own hn, fun s hs => (h.each s hs).base hn⟩
theorem OwnSt.base {n n' : Nat} {W : World} {y : MStage} (h : OwnSt n W y) (hn : n' ≤ n) : OwnSt n' W y := ⟨ownBase h.body hn, ownBase h.own hn⟩
theorem OwnSn.keep {n : Nat} {W W' : World} {y : MSnap} {e : TypeId} (h : OwnSn n W y) (hk : Keeps e W W') (h1 : 76 ≠ e) (h2 : 9 ≠ e) (h3 : 78 ≠ e) : OwnSn n W' y := ⟨own_keeps h.body h1 hk, own_keeps h.tags h2 hk, own_keeps h.own h3 hk⟩
theorem OwnSe.keep {n : Nat} {W W' : World} {y : MSet} {e : TypeId} (h : OwnSe n W y) (hk : Keeps e W W') (h1 : 76 ≠ e) (h2 : 9 ≠ e) (h3 : 78 ≠ e) (h4 : 54 ≠ e) : OwnSe n W' y := ⟨own_keeps h.body h1 hk, own_keeps h.snaps h4 hk, own_keeps h.own h3 hk, fun s hs => (h.each s hs).keep hk h1 h2 h3⟩
theorem OwnSt.keep {n : Nat} {W W' : World} {y : MStage} {e : TypeId} (h : OwnSt n W y) (hk : Keeps e W W') (h1 : 76 ≠ e) (h3 : 78 ≠ e) : OwnSt n W' y := ⟨own_keeps h.body h1 hk, own_keeps h.own h3 hk⟩

/-- What lies in an own row is as good as what it is a copy of. -/
theorem slGood_own {α : Type} {W W' : World} {n size b : Nat} {e : TypeId} {cells : α → List Value} {good good' : α → Prop} {X Y : Sl α} (hX : SlGood W cells good b X) (hl : Y.l.length = X.l.length) (ho : W'.ownsRow n e size Y.val Y.l.length (Y.l.flatMap cells)) (hg : ∀ y ∈ Y.l, good' y) : SlGood W' cells good' b Y := by
  obtain ⟨A, c, hv, hcap, hnil, hrd, _⟩ := ownAny ho
  injection hv with h1 h2 h3
  exact ⟨by rw [h1]; exact hrd.1, hg, by rw [h3]; exact hcap, by rw [h1, h3]; exact hnil, by rw [hl]; exact hX.len⟩
theorem MSnap.Good.of_own {W W' : World} {n : Nat} {x y : MSnap} (h : x.Good W) (hp : y.plain = x.plain) (ho : OwnSn n W' y) : y.Good W' := by
  obtain ⟨h1, h2, h3, h4, h5⟩ := PSnap.eq_iff.1 hp
  refine ⟨by have := h.gname_; rw [show y.name_ = x.name_ from h1]; exact this, by have := h.gguid_; rw [show y.guid_ = x.guid_ from h2]; exact this, slGood_own h.gbody_ (by rw [show y.body_.l = x.body_.l from h3]) ho.body fun b hb => h.gbody_.el b (by rw [← show y.body_.l = x.body_.l from h3]; exact hb), slGood_own h.gtags_ (by rw [show y.tags_.l = x.tags_.l from h4]) ho.tags fun b hb => h.gtags_.el b (by rw [← show y.tags_.l = x.tags_.l from h4]; exact hb), slGood_own h.gown_ (by rw [show y.own_.l = x.own_.l from h5]) ho.own fun b hb => h.gown_.el b (by rw [← show y.own_.l = x.own_.l from h5]; exact hb)⟩
theorem mem_plain {α β : Type} {f : α → β} {X Y : List α} (h : Y.map f = X.map f) {y : α} (hy : y ∈ Y) : ∃ x ∈ X, f y = f x := by
  have : f y ∈ X.map f := h ▸ List.mem_map.2 ⟨y, hy, rfl⟩
  obtain ⟨x, hx, e⟩ := List.mem_map.1 this
  exact ⟨x, hx, e.symm⟩
theorem map_len {α β : Type} {f : α → β} {X Y : List α} (h : Y.map f = X.map f) : Y.length = X.length := by
  have := congrArg List.length h
  simpa using this
theorem MSet.Good.of_own {W W' : World} {n : Nat} {x y : MSet} (h : x.Good W) (hp : y.plain = x.plain) (ho : OwnSe n W' y) : y.Good W' := by
  obtain ⟨h1, h2, h3, h4, h5⟩ := PSet.eq_iff.1 hp
  refine ⟨by have := h.gpath_; rw [show y.path_ = x.path_ from h1]; exact this, by have := h.gorigin_; rw [show y.origin_ = x.origin_ from h2]; exact this, slGood_own h.gbody_ (by rw [show y.body_.l = x.body_.l from h3]) ho.body fun b hb => h.gbody_.el b (by rw [← show y.body_.l = x.body_.l from h3]; exact hb), slGood_own h.gsnaps_ (map_len h4) ho.snaps fun s hs => ?_, slGood_own h.gown_ (by rw [show y.own_.l = x.own_.l from h5]) ho.own fun b hb => h.gown_.el b (by rw [← show y.own_.l = x.own_.l from h5]; exact hb)⟩
  obtain ⟨s', hs', e⟩ := mem_plain h4 hs
  exact (h.gsnaps_.el s' hs').of_own e (ho.each s hs)

end Go.Proofs.YtgcncanpgefhjaaGreat

namespace Go.Proofs.YtgcncanpgefhjaaGreat
open Go.ChangeShapes Go.WideShapes Go.ChangeAt Go.RowKit
set_option maxRecDepth 100000

theorem contains_Stage (p : MStage → Bool) (g : Nat) (lb : Array Value) (eg : Enters Tryz.prog g) (A : Option Addr) (c n : Nat) (l : List MStage) (hn : l.length = n) (w : World)
    (hp : ∀ (W : World) (x : MStage), x ∈ l → Below w.heap.size w W → Calls Tryz.prog g (#[.agg x.cells.toArray] ++ lb) W fun e w' => e = .returned (.bool (p x)) ∧ Below W.heap.size W w') (hl : n ≤ 4398046511104) (hr : Rd w A (l.flatMap MStage.cells)) :
    Calls Tryz.prog 130 #[.slice A n c, .func (.func g) #[] lb] w fun e w' => e = .returned (.bool (l.any p)) ∧ Below w.heap.size w w' := by
  have HI := indexMem Tryz.indexStage 21 Tryz.isAgg61 Tryz.sizeOf61 MStage.cells (fun _ => rfl) (by omega) p g lb eg A c n l hn w hp (by omega) hr
  change Calls _ 151 _ _ _ at HI
  have HI' := Lib.hid HI
  rw [← findI_any]
  obtain ⟨F, hF⟩ : ∃ F, findI p l = F := ⟨_, rfl⟩
  rw [hF] at HI' ⊢
  clear HI hF hp hr
  go_enter Tryz.func130, Tryz.ntmps130
  go_wp2_with fail
  refine HI'.out.mono ?_
  rintro e w2 ⟨rfl, hB⟩
  go_wp2
  go_ret
  exact ⟨rfl, hB⟩

attribute [-simp] Tryz.isAgg61 Tryz.sizeOf61
theorem every1_Stage (v : Bool) (g : Nat) (lb : Array Value) (eg : Enters Tryz.prog g) (B0 : Nat) (x : MStage) (w : World) (h0 : w.cell? ⟨B0, 0, none⟩ = some (.func (.func g) #[] lb))
    (hp : ∀ (W : World), Below w.heap.size w W → Calls Tryz.prog g (#[.agg x.cells.toArray] ++ lb) W fun e w' => e = .returned (.bool v) ∧ Below W.heap.size W w') :
    Calls Tryz.prog 131 #[.agg x.cells.toArray, .pointer (some ⟨B0, 0, none⟩)] w fun e w' => e = .returned (.bool (!v)) ∧ Below w.heap.size w w' := by
  have eg' : ∀ args w, (callFunc g args).run Tryz.prog w = .ok (.enter g args) w := eg
  have hl := World.block_lt_of_cell? w ⟨B0, 0, none⟩ h0
  obtain ⟨cs, hcs⟩ : ∃ cs, x.cells.toArray = cs := ⟨_, rfl⟩
  have hn : cs.size = 21 := by rw [← hcs]; rfl
  rw [hcs] at hp ⊢
  have hB1 : Below w.heap.size w (w.alloc (.cells cs 61)) := (Below.refl _ w).alloc (Nat.le_refl _) _
  have hlc := run_loadCellsFrom_new (P := Tryz.prog) w 61 cs 21 hn
  have HP := Lib.hid (hp _ hB1)
  have hs := hB1.size
  clear hp hcs
  go_enter Tryz.func131, Tryz.ntmps131
  go_wp2_with fail
  simp only [Tryz.isAgg61, Tryz.sizeOf61, Result.andThen, ↓reduceIte, hlc]
  rw [Oper.upon_value]
  go_wp2_with fail
  refine HP.out.mono ?_
  rintro e w2 ⟨rfl, hB2⟩
  cases v
  all_goals
    go_wp2
    go_ret
    exact ⟨rfl, hB1.trans (hB2.mono hs)⟩

theorem every_Stage (p : MStage → Bool) (g : Nat) (lb : Array Value) (eg : Enters Tryz.prog g) (A : Option Addr) (c n : Nat) (l : List MStage) (hn : l.length = n) (w : World)
    (hp : ∀ (W : World) (x : MStage), x ∈ l → Below w.heap.size w W → Calls Tryz.prog g (#[.agg x.cells.toArray] ++ lb) W fun e w' => e = .returned (.bool (p x)) ∧ Below W.heap.size W w') (hl : n ≤ 4398046511104) (hr : Rd w A (l.flatMap MStage.cells)) :
    Calls Tryz.prog 97 #[.slice A n c, .func (.func g) #[] lb] w fun e w' => e = .returned (.bool (l.all p)) ∧ Below w.heap.size w w' := by
  obtain ⟨w1, hw1⟩ : ∃ w1, w.alloc (.cells #[.func (.func g) #[] lb] 89) = w1 := ⟨_, rfl⟩
  have hB1 : Below w.heap.size w w1 := hw1 ▸ (Below.refl _ w).alloc (Nat.le_refl _) _
  have k1 : Blk w1 w.heap.size 89 [.func (.func g) #[] lb] := hw1 ▸ Blk.new w _ _
  have HC := Lib.hid (contains_Stage (fun x => !(p x)) 131 #[.pointer (some ⟨w.heap.size, 0, none⟩)] (enters_of Tryz.func131 (by kernel_rfl) rfl) A c n l hn w1
    (fun W x hx hB => every1_Stage (p x) g lb eg w.heap.size x W ((k1.below hB k1.lt).cell 0) fun W' hB' => hp W' x hx (hB1.trans ((hB.trans (hB'.mono hB.size)).mono hB1.size))) hl (hr.below hB1))
  have e : l.any (fun x => !(p x)) = !(l.all p) := by
    rw [List.not_all_eq_any_not]
  rw [e] at HC
  obtain ⟨R, hR⟩ : ∃ R, l.all p = R := ⟨_, rfl⟩
  rw [hR] at HC ⊢
  have HW1 := Lib.hid hw1
  clear hR e hp hr k1 hw1
  go_enter Tryz.func97, Tryz.ntmps97
  go_wp2_with fail
  rw [HW1.out]
  go_wp2_with fail
  refine HC.out.mono ?_
  rintro e w2 ⟨rfl, hB2⟩
  cases R
  all_goals
    go_wp2
    go_ret
    exact ⟨rfl, hB1.trans (hB2.mono hB1.size)⟩

end Go.Proofs.YtgcncanpgefhjaaGreat

namespace Go.Proofs.YtgcncanpgefhjaaGreat
open Go.ChangeShapes Go.WideShapes Go.ChangeAt Go.RowKit
set_option maxRecDepth 100000

theorem contains_Entry (p : MEntry → Bool) (g : Nat) (lb : Array Value) (eg : Enters Tryz.prog g) (A : Option Addr) (c n : Nat) (l : List MEntry) (hn : l.length = n) (w : World)
    (hp : ∀ (W : World) (x : MEntry), x ∈ l → Below w.heap.size w W → Calls Tryz.prog g (#[.agg x.cells.toArray] ++ lb) W fun e w' => e = .returned (.bool (p x)) ∧ Below W.heap.size W w') (hl : n ≤ 4398046511104) (hr : Rd w A (l.flatMap MEntry.cells)) :
    Calls Tryz.prog 133 #[.slice A n c, .func (.func g) #[] lb] w fun e w' => e = .returned (.bool (l.any p)) ∧ Below w.heap.size w w' := by
  have HI := indexMem Tryz.indexEntry 4 Tryz.isAgg73 Tryz.sizeOf73 MEntry.cells (fun _ => rfl) (by omega) p g lb eg A c n l hn w hp (by omega) hr
  change Calls _ 152 _ _ _ at HI
  have HI' := Lib.hid HI
  rw [← findI_any]
  obtain ⟨F, hF⟩ : ∃ F, findI p l = F := ⟨_, rfl⟩
  rw [hF] at HI' ⊢
  clear HI hF hp hr
  go_enter Tryz.func133, Tryz.ntmps133
  go_wp2_with fail
  refine HI'.out.mono ?_
  rintro e w2 ⟨rfl, hB⟩
  go_wp2
  go_ret
  exact ⟨rfl, hB⟩

theorem every1_Entry (v : Bool) (g : Nat) (lb : Array Value) (eg : Enters Tryz.prog g) (B0 : Nat) (x : MEntry) (w : World) (h0 : w.cell? ⟨B0, 0, none⟩ = some (.func (.func g) #[] lb))
    (hp : ∀ (W : World), Below w.heap.size w W → Calls Tryz.prog g (#[.agg x.cells.toArray] ++ lb) W fun e w' => e = .returned (.bool v) ∧ Below W.heap.size W w') :
    Calls Tryz.prog 134 #[.agg x.cells.toArray, .pointer (some ⟨B0, 0, none⟩)] w fun e w' => e = .returned (.bool (!v)) ∧ Below w.heap.size w w' := by
  have eg' : ∀ args w, (callFunc g args).run Tryz.prog w = .ok (.enter g args) w := eg
  have hl := World.block_lt_of_cell? w ⟨B0, 0, none⟩ h0
  obtain ⟨w1, hw1⟩ : ∃ w1, w.alloc (.cells #[.string x.user_, .int .i64 x.kind_, .string x.path_, .int .i64 x.err_] 73) = w1 := ⟨_, rfl⟩
  have hB1 : Below w.heap.size w w1 := hw1 ▸ (Below.refl _ w).alloc (Nat.le_refl _) _
  have k1 : Blk w1 w.heap.size 73 [.string x.user_, .int .i64 x.kind_, .string x.path_, .int .i64 x.err_] := hw1 ▸ Blk.new w _ _
  have h0' : w1.cell? ⟨B0, 0, none⟩ = some (.func (.func g) #[] lb) := by
    rw [hB1.cell (p := ⟨B0, 0, none⟩) hl]
    exact h0
  have z0 := k1.cell 0
  have z1 := k1.cell 1
  have z2 := k1.cell 2
  have z3 := k1.cell 3
  simp only [List.getElem?_cons_zero, List.getElem?_cons_succ] at z0 z1 z2 z3
  have HP := Lib.hid (hp w1 hB1)
  have HW1 := Lib.hid hw1
  clear hp hw1 k1
  go_enter Tryz.func134, Tryz.ntmps134
  go_wp2_with fail
  rw [HW1.out]
  first
    | refine HP.out.mono ?_
    | (go_wp2_with fail; refine HP.out.mono ?_)
  rintro e w2 ⟨rfl, hB2⟩
  cases v
  all_goals
    go_wp2
    go_ret
    exact ⟨rfl, hB1.trans (hB2.mono hB1.size)⟩

theorem every_Entry (p : MEntry → Bool) (g : Nat) (lb : Array Value) (eg : Enters Tryz.prog g) (A : Option Addr) (c n : Nat) (l : List MEntry) (hn : l.length = n) (w : World)
    (hp : ∀ (W : World) (x : MEntry), x ∈ l → Below w.heap.size w W → Calls Tryz.prog g (#[.agg x.cells.toArray] ++ lb) W fun e w' => e = .returned (.bool (p x)) ∧ Below W.heap.size W w') (hl : n ≤ 4398046511104) (hr : Rd w A (l.flatMap MEntry.cells)) :
    Calls Tryz.prog 101 #[.slice A n c, .func (.func g) #[] lb] w fun e w' => e = .returned (.bool (l.all p)) ∧ Below w.heap.size w w' := by
  obtain ⟨w1, hw1⟩ : ∃ w1, w.alloc (.cells #[.func (.func g) #[] lb] 90) = w1 := ⟨_, rfl⟩
  have hB1 : Below w.heap.size w w1 := hw1 ▸ (Below.refl _ w).alloc (Nat.le_refl _) _
  have k1 : Blk w1 w.heap.size 90 [.func (.func g) #[] lb] := hw1 ▸ Blk.new w _ _
  have HC := Lib.hid (contains_Entry (fun x => !(p x)) 134 #[.pointer (some ⟨w.heap.size, 0, none⟩)] (enters_of Tryz.func134 (by kernel_rfl) rfl) A c n l hn w1
    (fun W x hx hB => every1_Entry (p x) g lb eg w.heap.size x W ((k1.below hB k1.lt).cell 0) fun W' hB' => hp W' x hx (hB1.trans ((hB.trans (hB'.mono hB.size)).mono hB1.size))) hl (hr.below hB1))
  have e : l.any (fun x => !(p x)) = !(l.all p) := by
    rw [List.not_all_eq_any_not]
  rw [e] at HC
  obtain ⟨R, hR⟩ : ∃ R, l.all p = R := ⟨_, rfl⟩
  rw [hR] at HC ⊢
  have HW1 := Lib.hid hw1
  clear hR e hp hr k1 hw1
  go_enter Tryz.func101, Tryz.ntmps101
  go_wp2_with fail
  rw [HW1.out]
  go_wp2_with fail
  refine HC.out.mono ?_
  rintro e w2 ⟨rfl, hB2⟩
  cases R
  all_goals
    go_wp2
    go_ret
    exact ⟨rfl, hB1.trans (hB2.mono hB1.size)⟩

end Go.Proofs.YtgcncanpgefhjaaGreat

namespace Go.Proofs.YtgcncanpgefhjaaGreat
open Go.ChangeShapes Go.WideShapes Go.ChangeAt Go.RowKit
set_option maxRecDepth 100000

theorem contains_Snap (p : MSnap → Bool) (g : Nat) (lb : Array Value) (eg : Enters Tryz.prog g) (A : Option Addr) (c n : Nat) (l : List MSnap) (hn : l.length = n) (w : World)
    (hp : ∀ (W : World) (x : MSnap), x ∈ l → Below w.heap.size w W → Calls Tryz.prog g (#[.agg x.cells.toArray] ++ lb) W fun e w' => e = .returned (.bool (p x)) ∧ Below W.heap.size W w') (hl : n ≤ 4398046511104) (hr : Rd w A (l.flatMap MSnap.cells)) :
    Calls Tryz.prog 142 #[.slice A n c, .func (.func g) #[] lb] w fun e w' => e = .returned (.bool (l.any p)) ∧ Below w.heap.size w w' := by
  have HI := indexMem Tryz.indexSnap 5 Tryz.isAgg54 Tryz.sizeOf54 MSnap.cells (fun _ => rfl) (by omega) p g lb eg A c n l hn w hp (by omega) hr
  change Calls _ 159 _ _ _ at HI
  have HI' := Lib.hid HI
  rw [← findI_any]
  obtain ⟨F, hF⟩ : ∃ F, findI p l = F := ⟨_, rfl⟩
  rw [hF] at HI' ⊢
  clear HI hF hp hr
  go_enter Tryz.func142, Tryz.ntmps142
  go_wp2_with fail
  refine HI'.out.mono ?_
  rintro e w2 ⟨rfl, hB⟩
  go_wp2
  go_ret
  exact ⟨rfl, hB⟩

theorem every1_Snap (v : Bool) (g : Nat) (lb : Array Value) (eg : Enters Tryz.prog g) (B0 : Nat) (x : MSnap) (w : World) (h0 : w.cell? ⟨B0, 0, none⟩ = some (.func (.func g) #[] lb))
    (hp : ∀ (W : World), Below w.heap.size w W → Calls Tryz.prog g (#[.agg x.cells.toArray] ++ lb) W fun e w' => e = .returned (.bool v) ∧ Below W.heap.size W w') :
    Calls Tryz.prog 143 #[.agg x.cells.toArray, .pointer (some ⟨B0, 0, none⟩)] w fun e w' => e = .returned (.bool (!v)) ∧ Below w.heap.size w w' := by
  have eg' : ∀ args w, (callFunc g args).run Tryz.prog w = .ok (.enter g args) w := eg
  have hl := World.block_lt_of_cell? w ⟨B0, 0, none⟩ h0
  obtain ⟨w1, hw1⟩ : ∃ w1, w.alloc (.cells #[.string x.name_, .int .i64 x.guid_, .slice x.body_.A x.body_.l.length x.body_.c, .slice x.tags_.A x.tags_.l.length x.tags_.c, .slice x.own_.A x.own_.l.length x.own_.c] 54) = w1 := ⟨_, rfl⟩
  have hB1 : Below w.heap.size w w1 := hw1 ▸ (Below.refl _ w).alloc (Nat.le_refl _) _
  have k1 : Blk w1 w.heap.size 54 [.string x.name_, .int .i64 x.guid_, .slice x.body_.A x.body_.l.length x.body_.c, .slice x.tags_.A x.tags_.l.length x.tags_.c, .slice x.own_.A x.own_.l.length x.own_.c] := hw1 ▸ Blk.new w _ _
  have h0' : w1.cell? ⟨B0, 0, none⟩ = some (.func (.func g) #[] lb) := by
    rw [hB1.cell (p := ⟨B0, 0, none⟩) hl]
    exact h0
  have z0 := k1.cell 0
  have z1 := k1.cell 1
  have z2 := k1.cell 2
  have z3 := k1.cell 3
  have z4 := k1.cell 4
  simp only [List.getElem?_cons_zero, List.getElem?_cons_succ] at z0 z1 z2 z3 z4
  have HP := Lib.hid (hp w1 hB1)
  have HW1 := Lib.hid hw1
  clear hp hw1 k1
  go_enter Tryz.func143, Tryz.ntmps143
  go_wp2_with fail
  rw [HW1.out]
  first
    | refine HP.out.mono ?_
    | (go_wp2_with fail; refine HP.out.mono ?_)
  rintro e w2 ⟨rfl, hB2⟩
  cases v
  all_goals
    go_wp2
    go_ret
    exact ⟨rfl, hB1.trans (hB2.mono hB1.size)⟩

theorem every_Snap (p : MSnap → Bool) (g : Nat) (lb : Array Value) (eg : Enters Tryz.prog g) (A : Option Addr) (c n : Nat) (l : List MSnap) (hn : l.length = n) (w : World)
    (hp : ∀ (W : World) (x : MSnap), x ∈ l → Below w.heap.size w W → Calls Tryz.prog g (#[.agg x.cells.toArray] ++ lb) W fun e w' => e = .returned (.bool (p x)) ∧ Below W.heap.size W w') (hl : n ≤ 4398046511104) (hr : Rd w A (l.flatMap MSnap.cells)) :
    Calls Tryz.prog 118 #[.slice A n c, .func (.func g) #[] lb] w fun e w' => e = .returned (.bool (l.all p)) ∧ Below w.heap.size w w' := by
  obtain ⟨w1, hw1⟩ : ∃ w1, w.alloc (.cells #[.func (.func g) #[] lb] 147) = w1 := ⟨_, rfl⟩
  have hB1 : Below w.heap.size w w1 := hw1 ▸ (Below.refl _ w).alloc (Nat.le_refl _) _
  have k1 : Blk w1 w.heap.size 147 [.func (.func g) #[] lb] := hw1 ▸ Blk.new w _ _
  have HC := Lib.hid (contains_Snap (fun x => !(p x)) 143 #[.pointer (some ⟨w.heap.size, 0, none⟩)] (enters_of Tryz.func143 (by kernel_rfl) rfl) A c n l hn w1
    (fun W x hx hB => every1_Snap (p x) g lb eg w.heap.size x W ((k1.below hB k1.lt).cell 0) fun W' hB' => hp W' x hx (hB1.trans ((hB.trans (hB'.mono hB.size)).mono hB1.size))) hl (hr.below hB1))
  have e : l.any (fun x => !(p x)) = !(l.all p) := by
    rw [List.not_all_eq_any_not]
  rw [e] at HC
  obtain ⟨R, hR⟩ : ∃ R, l.all p = R := ⟨_, rfl⟩
  rw [hR] at HC ⊢
  have HW1 := Lib.hid hw1
  clear hR e hp hr k1 hw1
  go_enter Tryz.func118, Tryz.ntmps118
  go_wp2_with fail
  rw [HW1.out]
  go_wp2_with fail
  refine HC.out.mono ?_
  rintro e w2 ⟨rfl, hB2⟩
  cases R
  all_goals
    go_wp2
    go_ret
    exact ⟨rfl, hB1.trans (hB2.mono hB1.size)⟩

end Go.Proofs.YtgcncanpgefhjaaGreat

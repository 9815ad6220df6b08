/-
  How Snap, Set, Sum, Record, Stage, Entry, Tenant lie in memory, and how they come in. No conditions.
-/
import Derived.Test.YtoabkbnhdekbdaaGreatMSL
import Derived.Test.YtoabkbnhdekbdaaGreatMBLM
import Derived.Test.YtoabkbnhdekbdaaGreatMEM
import Derived.Test.YtoabkbnhdekbdaaGreatMGRX
import Derived.Test.YtoabkbnhdekbdaaGreatMTNP
namespace Go.Proofs.YtoabkbnhdekbdaaGreat
open Go.ChangeShapes Go.WideShapes Go.ChangeAt Go.RowKit
set_option maxRecDepth 100000
theorem kc_Snap : Tryz.prog.cellsOf 66 = 5 := by kernel_rfl
theorem kc_string : Tryz.prog.cellsOf 9 = 1 := by kernel_rfl
theorem kc_int : Tryz.prog.cellsOf 3 = 1 := by kernel_rfl
theorem kc_LBlock : Tryz.prog.cellsOf 45 = 1 := by kernel_rfl
theorem kc_Block : Tryz.prog.cellsOf 103 = 2 := by kernel_rfl
theorem kc_Lstring : Tryz.prog.cellsOf 64 = 1 := by kernel_rfl
theorem kc_LProp : Tryz.prog.cellsOf 47 = 1 := by kernel_rfl
theorem kc_Prop : Tryz.prog.cellsOf 105 = 2 := by kernel_rfl
theorem kc_Set : Tryz.prog.cellsOf 49 = 5 := by kernel_rfl
theorem kc_LSnap : Tryz.prog.cellsOf 46 = 1 := by kernel_rfl
theorem kc_Sum : Tryz.prog.cellsOf 92 = 4 := by kernel_rfl
theorem kc_uint64 : Tryz.prog.cellsOf 90 = 1 := by kernel_rfl
theorem kc_Record : Tryz.prog.cellsOf 94 = 12 := by kernel_rfl
theorem kc_Stage : Tryz.prog.cellsOf 96 = 21 := by kernel_rfl
theorem kc_bool : Tryz.prog.cellsOf 4 = 1 := by kernel_rfl
theorem kc_Entry : Tryz.prog.cellsOf 109 = 4 := by kernel_rfl
theorem kc_Errno : Tryz.prog.cellsOf 28 = 1 := by kernel_rfl
theorem kc_Tenant : Tryz.prog.cellsOf 27 = 7 := by kernel_rfl
theorem kc_LSet : Tryz.prog.cellsOf 22 = 1 := by kernel_rfl
theorem kc_LGrant : Tryz.prog.cellsOf 23 = 1 := by kernel_rfl
theorem kc_Grant : Tryz.prog.cellsOf 107 = 3 := by kernel_rfl
theorem kc_LStage : Tryz.prog.cellsOf 24 = 1 := by kernel_rfl
theorem kc_LEntry : Tryz.prog.cellsOf 25 = 1 := by kernel_rfl
theorem kb_Block : Tryz.prog.bytesOf 103 = 24 := by kernel_rfl
theorem kb_string : Tryz.prog.bytesOf 9 = 16 := by kernel_rfl
theorem kb_Prop : Tryz.prog.bytesOf 105 = 32 := by kernel_rfl
theorem kb_Snap : Tryz.prog.bytesOf 66 = 96 := by kernel_rfl
theorem kb_Set : Tryz.prog.bytesOf 49 = 104 := by kernel_rfl
theorem kb_Grant : Tryz.prog.bytesOf 107 = 40 := by kernel_rfl
theorem kb_Stage : Tryz.prog.bytesOf 96 = 224 := by kernel_rfl
theorem kb_Entry : Tryz.prog.bytesOf 109 = 48 := by kernel_rfl
structure MSnap where
  name_ : ByteArray
  guid_ : Int
  body_ : Sl Bk
  tags_ : Sl ByteArray
  own_ : Sl Pr
abbrev MSnap.cells (x : MSnap) : List Value := [.string x.name_, .int .i64 x.guid_, .slice x.body_.A x.body_.l.length x.body_.c, .slice x.tags_.A x.tags_.l.length x.tags_.c, .slice x.own_.A x.own_.l.length x.own_.c]
def MSnap.plain (x : MSnap) : PSnap := ⟨x.name_, x.guid_, x.body_.l, x.tags_.l, x.own_.l⟩
structure MSnap.Good (W : World) (x : MSnap) : Prop where
  gname_ : x.name_.size ≤ 140737488351232
  gguid_ : -9223372036854775808 ≤ x.guid_ ∧ x.guid_ ≤ 9223372036854775807
  gbody_ : SlGood W bkC goodBk 24 x.body_
  gtags_ : SlGood W (fun s : ByteArray => [Value.string s]) (fun s : ByteArray => s.size ≤ 140737488351232) 16 x.tags_
  gown_ : SlGood W prC goodPr 32 x.own_
theorem MSnap.Good.below {W W' : World} {x : MSnap} (h : x.Good W) (hB : Below W.heap.size W W') : x.Good W' := ⟨h.gname_, h.gguid_, h.gbody_.below hB fun _ h => h, h.gtags_.below hB fun _ h => h, h.gown_.below hB fun _ h => h⟩
structure MSnap.Lies (n : Nat) (W : World) (x : MSnap) : Prop where
  lbody_ : SlLies n W bkC (fun _ => True) x.body_
  ltags_ : SlLies n W (fun s : ByteArray => [Value.string s]) (fun _ => True) x.tags_
  lown_ : SlLies n W prC (fun _ => True) x.own_
theorem MSnap.Lies.below {n : Nat} {W W' : World} {x : MSnap} (h : x.Lies n W) (hB : Below W.heap.size W W') : x.Lies n W' := ⟨h.lbody_.imp (fun r => r.below hB) fun _ h => h, h.ltags_.imp (fun r => r.below hB) fun _ h => h, h.lown_.imp (fun r => r.below hB) fun _ h => h⟩
theorem MSnap.Lies.mono {n n' : Nat} {W : World} {x : MSnap} (h : x.Lies n W) (hn : n' ≤ n) : x.Lies n' W := ⟨h.lbody_.imp (fun r => r.mono hn) fun _ h => h, h.ltags_.imp (fun r => r.mono hn) fun _ h => h, h.lown_.imp (fun r => r.mono hn) fun _ h => h⟩
theorem MSnap.Lies.stays {n : Nat} {W W' : World} {x : MSnap} (h : x.Lies n W) (hs : W.heap.size ≤ W'.heap.size) (hk : ∀ k, n ≤ k → k < W.heap.size → W'.heap[k]? = W.heap[k]?) : x.Lies n W' := ⟨h.lbody_.imp (fun r => r.stays hs hk) fun _ h => h, h.ltags_.imp (fun r => r.stays hs hk) fun _ h => h, h.lown_.imp (fun r => r.stays hs hk) fun _ h => h⟩
theorem MSnap.Good.lies {W : World} {x : MSnap} (h : x.Good W) : x.Lies 0 W := ⟨h.gbody_.lies fun _ _ => trivial, h.gtags_.lies fun _ _ => trivial, h.gown_.lies fun _ _ => trivial⟩
section
variable {H : Type} {enc : TypeId × Value → H} {W : World}
theorem opens_MSnap : Opens enc Tryz.prog W 66 MSnap.cells (MSnap.Good W) := fun fuel cs x h hf => by
  obtain ⟨xs, n, _, rfl, hl, hxs, hel⟩ := DataW.trod_struct Tryz.underlying66 h
  rw [kc_Snap] at hl
  obtain ⟨c0, c1, c2, c3, c4, rfl⟩ : ∃ c0 c1 c2 c3 c4, cs = [c0, c1, c2, c3, c4] := by
    rcases cs with _ | ⟨c0, _ | ⟨c1, _ | ⟨c2, _ | ⟨c3, _ | ⟨c4, _ | ⟨z, zs⟩⟩⟩⟩⟩⟩ <;> simp at hl
    exact ⟨c0, c1, c2, c3, c4, rfl⟩
  have h0 : DataW.trod enc Tryz.prog W 0 (fun _ => true) true n 9 (([c0, c1, c2, c3, c4].drop 0).take (Tryz.prog.cellsOf 9)) = xs[0]? := hel 0 _ rfl
  rw [kc_string] at h0
  obtain ⟨y0, e0⟩ : ∃ y, xs[0]? = some y := ⟨_, qZa (by rw [hxs]; decide)⟩
  rw [e0] at h0
  obtain ⟨a0, k0, g0⟩ := (opensTx Tryz.underlying9) n [c0] y0 h0 (fit_part Tryz.underlying66 hf (i := 0) rfl (by rw [List.getElem?_map, e0]; rfl))
  have h1 : DataW.trod enc Tryz.prog W 0 (fun _ => true) true n 3 (([c0, c1, c2, c3, c4].drop 1).take (Tryz.prog.cellsOf 3)) = xs[1]? := hel 1 _ rfl
  rw [kc_int] at h1
  obtain ⟨y1, e1⟩ : ∃ y, xs[1]? = some y := ⟨_, qZa (by rw [hxs]; decide)⟩
  rw [e1] at h1
  obtain ⟨a1, k1, g1⟩ := (opensI64 Tryz.underlying3) n [c1] y1 h1 (fit_part Tryz.underlying66 hf (i := 1) rfl (by rw [List.getElem?_map, e1]; rfl))
  have h2 : DataW.trod enc Tryz.prog W 0 (fun _ => true) true n 45 (([c0, c1, c2, c3, c4].drop 2).take (Tryz.prog.cellsOf 45)) = xs[2]? := hel 2 _ rfl
  rw [kc_LBlock] at h2
  obtain ⟨y2, e2⟩ : ∃ y, xs[2]? = some y := ⟨_, qZa (by rw [hxs]; decide)⟩
  rw [e2] at h2
  obtain ⟨a2, k2, g2⟩ := (opensSl Tryz.underlying45 kc_Block kb_Block (by decide) (fun _ => rfl) opensBk) n [c2] y2 h2 (fit_part Tryz.underlying66 hf (i := 2) rfl (by rw [List.getElem?_map, e2]; rfl))
  have h3 : DataW.trod enc Tryz.prog W 0 (fun _ => true) true n 64 (([c0, c1, c2, c3, c4].drop 3).take (Tryz.prog.cellsOf 64)) = xs[3]? := hel 3 _ rfl
  rw [kc_Lstring] at h3
  obtain ⟨y3, e3⟩ : ∃ y, xs[3]? = some y := ⟨_, qZa (by rw [hxs]; decide)⟩
  rw [e3] at h3
  obtain ⟨a3, k3, g3⟩ := (opensSl Tryz.underlying64 kc_string kb_string (by decide) (fun _ => rfl) (opensTx Tryz.underlying9)) n [c3] y3 h3 (fit_part Tryz.underlying66 hf (i := 3) rfl (by rw [List.getElem?_map, e3]; rfl))
  have h4 : DataW.trod enc Tryz.prog W 0 (fun _ => true) true n 47 (([c0, c1, c2, c3, c4].drop 4).take (Tryz.prog.cellsOf 47)) = xs[4]? := hel 4 _ rfl
  rw [kc_LProp] at h4
  obtain ⟨y4, e4⟩ : ∃ y, xs[4]? = some y := ⟨_, qZa (by rw [hxs]; decide)⟩
  rw [e4] at h4
  obtain ⟨a4, k4, g4⟩ := (opensSl Tryz.underlying47 kc_Prop kb_Prop (by decide) (fun _ => rfl) opensPr) n [c4] y4 h4 (fit_part Tryz.underlying66 hf (i := 4) rfl (by rw [List.getElem?_map, e4]; rfl))
  simp only [List.cons.injEq, and_true] at k0
  obtain rfl := k0
  simp only [List.cons.injEq, and_true] at k1
  obtain rfl := k1
  simp only [List.cons.injEq, and_true] at k2
  obtain rfl := k2
  simp only [List.cons.injEq, and_true] at k3
  obtain rfl := k3
  simp only [List.cons.injEq, and_true] at k4
  obtain rfl := k4
  exact ⟨⟨a0, a1, a2, a3, a4⟩, rfl, ⟨g0, g1, g2, g3, g4⟩⟩
end
structure MSet where
  path_ : ByteArray
  origin_ : ByteArray
  body_ : Sl Bk
  snaps_ : Sl MSnap
  own_ : Sl Pr
abbrev MSet.cells (x : MSet) : List Value := [.string x.path_, .string x.origin_, .slice x.body_.A x.body_.l.length x.body_.c, .slice x.snaps_.A x.snaps_.l.length x.snaps_.c, .slice x.own_.A x.own_.l.length x.own_.c]
def MSet.plain (x : MSet) : PSet := ⟨x.path_, x.origin_, x.body_.l, x.snaps_.l.map MSnap.plain, x.own_.l⟩
structure MSet.Good (W : World) (x : MSet) : Prop where
  gpath_ : x.path_.size ≤ 140737488351232
  gorigin_ : x.origin_.size ≤ 140737488351232
  gbody_ : SlGood W bkC goodBk 24 x.body_
  gsnaps_ : SlGood W MSnap.cells (MSnap.Good W) 96 x.snaps_
  gown_ : SlGood W prC goodPr 32 x.own_
theorem MSet.Good.below {W W' : World} {x : MSet} (h : x.Good W) (hB : Below W.heap.size W W') : x.Good W' := ⟨h.gpath_, h.gorigin_, h.gbody_.below hB fun _ h => h, h.gsnaps_.below hB fun _ h => h.below hB, h.gown_.below hB fun _ h => h⟩
structure MSet.Lies (n : Nat) (W : World) (x : MSet) : Prop where
  lbody_ : SlLies n W bkC (fun _ => True) x.body_
  lsnaps_ : SlLies n W MSnap.cells (MSnap.Lies n W) x.snaps_
  lown_ : SlLies n W prC (fun _ => True) x.own_
theorem MSet.Lies.below {n : Nat} {W W' : World} {x : MSet} (h : x.Lies n W) (hB : Below W.heap.size W W') : x.Lies n W' := ⟨h.lbody_.imp (fun r => r.below hB) fun _ h => h, h.lsnaps_.imp (fun r => r.below hB) fun _ h => h.below hB, h.lown_.imp (fun r => r.below hB) fun _ h => h⟩
theorem MSet.Lies.mono {n n' : Nat} {W : World} {x : MSet} (h : x.Lies n W) (hn : n' ≤ n) : x.Lies n' W := ⟨h.lbody_.imp (fun r => r.mono hn) fun _ h => h, h.lsnaps_.imp (fun r => r.mono hn) fun _ h => h.mono hn, h.lown_.imp (fun r => r.mono hn) fun _ h => h⟩
theorem MSet.Lies.stays {n : Nat} {W W' : World} {x : MSet} (h : x.Lies n W) (hs : W.heap.size ≤ W'.heap.size) (hk : ∀ k, n ≤ k → k < W.heap.size → W'.heap[k]? = W.heap[k]?) : x.Lies n W' := ⟨h.lbody_.imp (fun r => r.stays hs hk) fun _ h => h, h.lsnaps_.imp (fun r => r.stays hs hk) fun _ h => h.stays hs hk, h.lown_.imp (fun r => r.stays hs hk) fun _ h => h⟩
theorem MSet.Good.lies {W : World} {x : MSet} (h : x.Good W) : x.Lies 0 W := ⟨h.gbody_.lies fun _ _ => trivial, h.gsnaps_.lies fun _ h => h.lies, h.gown_.lies fun _ _ => trivial⟩
section
variable {H : Type} {enc : TypeId × Value → H} {W : World}
end
structure MSum where
  a_ : Int
  b_ : Int
  c_ : Int
  d_ : Int
abbrev MSum.cells (x : MSum) : List Value := [.int .u64 x.a_, .int .u64 x.b_, .int .u64 x.c_, .int .u64 x.d_]
def MSum.plain (x : MSum) : PSum := ⟨x.a_, x.b_, x.c_, x.d_⟩
structure MSum.Good (W : World) (x : MSum) : Prop where
  ga_ : (Lit.int .u64 x.a_).wf = true
  gb_ : (Lit.int .u64 x.b_).wf = true
  gc_ : (Lit.int .u64 x.c_).wf = true
  gd_ : (Lit.int .u64 x.d_).wf = true
theorem MSum.Good.below {W W' : World} {x : MSum} (h : x.Good W) (_hB : Below W.heap.size W W') : x.Good W' := ⟨h.ga_, h.gb_, h.gc_, h.gd_⟩
section
variable {H : Type} {enc : TypeId × Value → H} {W : World}
theorem opens_MSum : Opens enc Tryz.prog W 92 MSum.cells (MSum.Good W) := fun fuel cs x h hf => by
  obtain ⟨xs, n, _, rfl, hl, hxs, hel⟩ := DataW.trod_struct Tryz.underlying92 h
  rw [kc_Sum] at hl
  obtain ⟨c0, c1, c2, c3, rfl⟩ : ∃ c0 c1 c2 c3, cs = [c0, c1, c2, c3] := by
    rcases cs with _ | ⟨c0, _ | ⟨c1, _ | ⟨c2, _ | ⟨c3, _ | ⟨z, zs⟩⟩⟩⟩⟩ <;> simp at hl
    exact ⟨c0, c1, c2, c3, rfl⟩
  have h0 : DataW.trod enc Tryz.prog W 0 (fun _ => true) true n 90 (([c0, c1, c2, c3].drop 0).take (Tryz.prog.cellsOf 90)) = xs[0]? := hel 0 _ rfl
  rw [kc_uint64] at h0
  obtain ⟨y0, e0⟩ : ∃ y, xs[0]? = some y := ⟨_, qZa (by rw [hxs]; decide)⟩
  rw [e0] at h0
  obtain ⟨a0, k0, g0⟩ := (opensU64 Tryz.underlying90) n [c0] y0 h0 (fit_part Tryz.underlying92 hf (i := 0) rfl (by rw [List.getElem?_map, e0]; rfl))
  have h1 : DataW.trod enc Tryz.prog W 0 (fun _ => true) true n 90 (([c0, c1, c2, c3].drop 1).take (Tryz.prog.cellsOf 90)) = xs[1]? := hel 1 _ rfl
  rw [kc_uint64] at h1
  obtain ⟨y1, e1⟩ : ∃ y, xs[1]? = some y := ⟨_, qZa (by rw [hxs]; decide)⟩
  rw [e1] at h1
  obtain ⟨a1, k1, g1⟩ := (opensU64 Tryz.underlying90) n [c1] y1 h1 (fit_part Tryz.underlying92 hf (i := 1) rfl (by rw [List.getElem?_map, e1]; rfl))
  have h2 : DataW.trod enc Tryz.prog W 0 (fun _ => true) true n 90 (([c0, c1, c2, c3].drop 2).take (Tryz.prog.cellsOf 90)) = xs[2]? := hel 2 _ rfl
  rw [kc_uint64] at h2
  obtain ⟨y2, e2⟩ : ∃ y, xs[2]? = some y := ⟨_, qZa (by rw [hxs]; decide)⟩
  rw [e2] at h2
  obtain ⟨a2, k2, g2⟩ := (opensU64 Tryz.underlying90) n [c2] y2 h2 (fit_part Tryz.underlying92 hf (i := 2) rfl (by rw [List.getElem?_map, e2]; rfl))
  have h3 : DataW.trod enc Tryz.prog W 0 (fun _ => true) true n 90 (([c0, c1, c2, c3].drop 3).take (Tryz.prog.cellsOf 90)) = xs[3]? := hel 3 _ rfl
  rw [kc_uint64] at h3
  obtain ⟨y3, e3⟩ : ∃ y, xs[3]? = some y := ⟨_, qZa (by rw [hxs]; decide)⟩
  rw [e3] at h3
  obtain ⟨a3, k3, g3⟩ := (opensU64 Tryz.underlying90) n [c3] y3 h3 (fit_part Tryz.underlying92 hf (i := 3) rfl (by rw [List.getElem?_map, e3]; rfl))
  simp only [List.cons.injEq, and_true] at k0
  obtain rfl := k0
  simp only [List.cons.injEq, and_true] at k1
  obtain rfl := k1
  simp only [List.cons.injEq, and_true] at k2
  obtain rfl := k2
  simp only [List.cons.injEq, and_true] at k3
  obtain rfl := k3
  exact ⟨⟨a0, a1, a2, a3⟩, rfl, ⟨g0, g1, g2, g3⟩⟩
end
structure MRecord where
  kind_ : Int
  name_ : ByteArray
  from_ : Int
  guid_ : Int
  own_ : Sl Pr
  index_ : Int
  count_ : Int
  data_ : ByteArray
  sum_ : MSum
abbrev MRecord.cells (x : MRecord) : List Value := [.int .i64 x.kind_, .string x.name_, .int .i64 x.from_, .int .i64 x.guid_, .slice x.own_.A x.own_.l.length x.own_.c, .int .i64 x.index_, .int .i64 x.count_, .string x.data_, .int .u64 x.sum_.a_, .int .u64 x.sum_.b_, .int .u64 x.sum_.c_, .int .u64 x.sum_.d_]
def MRecord.plain (x : MRecord) : PRecord := ⟨x.kind_, x.name_, x.from_, x.guid_, x.own_.l, x.index_, x.count_, x.data_, x.sum_.plain⟩
structure MRecord.Good (W : World) (x : MRecord) : Prop where
  gkind_ : -9223372036854775808 ≤ x.kind_ ∧ x.kind_ ≤ 9223372036854775807
  gname_ : x.name_.size ≤ 140737488351232
  gfrom_ : -9223372036854775808 ≤ x.from_ ∧ x.from_ ≤ 9223372036854775807
  gguid_ : -9223372036854775808 ≤ x.guid_ ∧ x.guid_ ≤ 9223372036854775807
  gown_ : SlGood W prC goodPr 32 x.own_
  gindex_ : -9223372036854775808 ≤ x.index_ ∧ x.index_ ≤ 9223372036854775807
  gcount_ : -9223372036854775808 ≤ x.count_ ∧ x.count_ ≤ 9223372036854775807
  gdata_ : x.data_.size ≤ 140737488351232
  gsum_ : x.sum_.Good W
theorem MRecord.Good.below {W W' : World} {x : MRecord} (h : x.Good W) (hB : Below W.heap.size W W') : x.Good W' := ⟨h.gkind_, h.gname_, h.gfrom_, h.gguid_, h.gown_.below hB fun _ h => h, h.gindex_, h.gcount_, h.gdata_, h.gsum_.below hB⟩
structure MRecord.Lies (n : Nat) (W : World) (x : MRecord) : Prop where
  lown_ : SlLies n W prC (fun _ => True) x.own_
theorem MRecord.Lies.below {n : Nat} {W W' : World} {x : MRecord} (h : x.Lies n W) (hB : Below W.heap.size W W') : x.Lies n W' := ⟨h.lown_.imp (fun r => r.below hB) fun _ h => h⟩
theorem MRecord.Lies.mono {n n' : Nat} {W : World} {x : MRecord} (h : x.Lies n W) (hn : n' ≤ n) : x.Lies n' W := ⟨h.lown_.imp (fun r => r.mono hn) fun _ h => h⟩
theorem MRecord.Lies.stays {n : Nat} {W W' : World} {x : MRecord} (h : x.Lies n W) (hs : W.heap.size ≤ W'.heap.size) (hk : ∀ k, n ≤ k → k < W.heap.size → W'.heap[k]? = W.heap[k]?) : x.Lies n W' := ⟨h.lown_.imp (fun r => r.stays hs hk) fun _ h => h⟩
theorem MRecord.Good.lies {W : World} {x : MRecord} (h : x.Good W) : x.Lies 0 W := ⟨h.gown_.lies fun _ _ => trivial⟩
section
variable {H : Type} {enc : TypeId × Value → H} {W : World}
theorem opens_MRecord : Opens enc Tryz.prog W 94 MRecord.cells (MRecord.Good W) := fun fuel cs x h hf => by
  obtain ⟨xs, n, _, rfl, hl, hxs, hel⟩ := DataW.trod_struct Tryz.underlying94 h
  rw [kc_Record] at hl
  obtain ⟨c0, c1, c2, c3, c4, c5, c6, c7, c8, c9, c10, c11, rfl⟩ : ∃ c0 c1 c2 c3 c4 c5 c6 c7 c8 c9 c10 c11, cs = [c0, c1, c2, c3, c4, c5, c6, c7, c8, c9, c10, c11] := by
    rcases cs with _ | ⟨c0, _ | ⟨c1, _ | ⟨c2, _ | ⟨c3, _ | ⟨c4, _ | ⟨c5, _ | ⟨c6, _ | ⟨c7, _ | ⟨c8, _ | ⟨c9, _ | ⟨c10, _ | ⟨c11, _ | ⟨z, zs⟩⟩⟩⟩⟩⟩⟩⟩⟩⟩⟩⟩⟩ <;> simp at hl
    exact ⟨c0, c1, c2, c3, c4, c5, c6, c7, c8, c9, c10, c11, rfl⟩
  have h0 : DataW.trod enc Tryz.prog W 0 (fun _ => true) true n 3 (([c0, c1, c2, c3, c4, c5, c6, c7, c8, c9, c10, c11].drop 0).take (Tryz.prog.cellsOf 3)) = xs[0]? := hel 0 _ rfl
  rw [kc_int] at h0
  obtain ⟨y0, e0⟩ : ∃ y, xs[0]? = some y := ⟨_, qZa (by rw [hxs]; decide)⟩
  rw [e0] at h0
  obtain ⟨a0, k0, g0⟩ := (opensI64 Tryz.underlying3) n [c0] y0 h0 (fit_part Tryz.underlying94 hf (i := 0) rfl (by rw [List.getElem?_map, e0]; rfl))
  have h1 : DataW.trod enc Tryz.prog W 0 (fun _ => true) true n 9 (([c0, c1, c2, c3, c4, c5, c6, c7, c8, c9, c10, c11].drop 1).take (Tryz.prog.cellsOf 9)) = xs[1]? := hel 1 _ rfl
  rw [kc_string] at h1
  obtain ⟨y1, e1⟩ : ∃ y, xs[1]? = some y := ⟨_, qZa (by rw [hxs]; decide)⟩
  rw [e1] at h1
  obtain ⟨a1, k1, g1⟩ := (opensTx Tryz.underlying9) n [c1] y1 h1 (fit_part Tryz.underlying94 hf (i := 1) rfl (by rw [List.getElem?_map, e1]; rfl))
  have h2 : DataW.trod enc Tryz.prog W 0 (fun _ => true) true n 3 (([c0, c1, c2, c3, c4, c5, c6, c7, c8, c9, c10, c11].drop 2).take (Tryz.prog.cellsOf 3)) = xs[2]? := hel 2 _ rfl
  rw [kc_int] at h2
  obtain ⟨y2, e2⟩ : ∃ y, xs[2]? = some y := ⟨_, qZa (by rw [hxs]; decide)⟩
  rw [e2] at h2
  obtain ⟨a2, k2, g2⟩ := (opensI64 Tryz.underlying3) n [c2] y2 h2 (fit_part Tryz.underlying94 hf (i := 2) rfl (by rw [List.getElem?_map, e2]; rfl))
  have h3 : DataW.trod enc Tryz.prog W 0 (fun _ => true) true n 3 (([c0, c1, c2, c3, c4, c5, c6, c7, c8, c9, c10, c11].drop 3).take (Tryz.prog.cellsOf 3)) = xs[3]? := hel 3 _ rfl
  rw [kc_int] at h3
  obtain ⟨y3, e3⟩ : ∃ y, xs[3]? = some y := ⟨_, qZa (by rw [hxs]; decide)⟩
  rw [e3] at h3
  obtain ⟨a3, k3, g3⟩ := (opensI64 Tryz.underlying3) n [c3] y3 h3 (fit_part Tryz.underlying94 hf (i := 3) rfl (by rw [List.getElem?_map, e3]; rfl))
  have h4 : DataW.trod enc Tryz.prog W 0 (fun _ => true) true n 47 (([c0, c1, c2, c3, c4, c5, c6, c7, c8, c9, c10, c11].drop 4).take (Tryz.prog.cellsOf 47)) = xs[4]? := hel 4 _ rfl
  rw [kc_LProp] at h4
  obtain ⟨y4, e4⟩ : ∃ y, xs[4]? = some y := ⟨_, qZa (by rw [hxs]; decide)⟩
  rw [e4] at h4
  obtain ⟨a4, k4, g4⟩ := (opensSl Tryz.underlying47 kc_Prop kb_Prop (by decide) (fun _ => rfl) opensPr) n [c4] y4 h4 (fit_part Tryz.underlying94 hf (i := 4) rfl (by rw [List.getElem?_map, e4]; rfl))
  have h5 : DataW.trod enc Tryz.prog W 0 (fun _ => true) true n 3 (([c0, c1, c2, c3, c4, c5, c6, c7, c8, c9, c10, c11].drop 5).take (Tryz.prog.cellsOf 3)) = xs[5]? := hel 5 _ rfl
  rw [kc_int] at h5
  obtain ⟨y5, e5⟩ : ∃ y, xs[5]? = some y := ⟨_, qZa (by rw [hxs]; decide)⟩
  rw [e5] at h5
  obtain ⟨a5, k5, g5⟩ := (opensI64 Tryz.underlying3) n [c5] y5 h5 (fit_part Tryz.underlying94 hf (i := 5) rfl (by rw [List.getElem?_map, e5]; rfl))
  have h6 : DataW.trod enc Tryz.prog W 0 (fun _ => true) true n 3 (([c0, c1, c2, c3, c4, c5, c6, c7, c8, c9, c10, c11].drop 6).take (Tryz.prog.cellsOf 3)) = xs[6]? := hel 6 _ rfl
  rw [kc_int] at h6
  obtain ⟨y6, e6⟩ : ∃ y, xs[6]? = some y := ⟨_, qZa (by rw [hxs]; decide)⟩
  rw [e6] at h6
  obtain ⟨a6, k6, g6⟩ := (opensI64 Tryz.underlying3) n [c6] y6 h6 (fit_part Tryz.underlying94 hf (i := 6) rfl (by rw [List.getElem?_map, e6]; rfl))
  have h7 : DataW.trod enc Tryz.prog W 0 (fun _ => true) true n 9 (([c0, c1, c2, c3, c4, c5, c6, c7, c8, c9, c10, c11].drop 7).take (Tryz.prog.cellsOf 9)) = xs[7]? := hel 7 _ rfl
  rw [kc_string] at h7
  obtain ⟨y7, e7⟩ : ∃ y, xs[7]? = some y := ⟨_, qZa (by rw [hxs]; decide)⟩
  rw [e7] at h7
  obtain ⟨a7, k7, g7⟩ := (opensTx Tryz.underlying9) n [c7] y7 h7 (fit_part Tryz.underlying94 hf (i := 7) rfl (by rw [List.getElem?_map, e7]; rfl))
  have h8 : DataW.trod enc Tryz.prog W 0 (fun _ => true) true n 92 (([c0, c1, c2, c3, c4, c5, c6, c7, c8, c9, c10, c11].drop 8).take (Tryz.prog.cellsOf 92)) = xs[8]? := hel 8 _ rfl
  rw [kc_Sum] at h8
  obtain ⟨y8, e8⟩ : ∃ y, xs[8]? = some y := ⟨_, qZa (by rw [hxs]; decide)⟩
  rw [e8] at h8
  obtain ⟨a8, k8, g8⟩ := opens_MSum n [c8, c9, c10, c11] y8 h8 (fit_part Tryz.underlying94 hf (i := 8) rfl (by rw [List.getElem?_map, e8]; rfl))
  simp only [List.cons.injEq, and_true] at k0
  obtain rfl := k0
  simp only [List.cons.injEq, and_true] at k1
  obtain rfl := k1
  simp only [List.cons.injEq, and_true] at k2
  obtain rfl := k2
  simp only [List.cons.injEq, and_true] at k3
  obtain rfl := k3
  simp only [List.cons.injEq, and_true] at k4
  obtain rfl := k4
  simp only [List.cons.injEq, and_true] at k5
  obtain rfl := k5
  simp only [List.cons.injEq, and_true] at k6
  obtain rfl := k6
  simp only [List.cons.injEq, and_true] at k7
  obtain rfl := k7
  simp only [MSum.cells, List.cons.injEq, and_true] at k8
  obtain ⟨rfl, rfl, rfl, rfl⟩ := k8
  exact ⟨⟨a0, a1, a2, a3, a4, a5, a6, a7, a8⟩, rfl, ⟨g0, g1, g2, g3, g4, g5, g6, g7, g8⟩⟩
end
structure MStage where
  into_ : ByteArray
  begin_ : MRecord
  body_ : Sl Bk
  at_ : Int
  next_ : Int
  sum_ : MSum
  done_ : Bool
abbrev MStage.cells (x : MStage) : List Value := [.string x.into_, .int .i64 x.begin_.kind_, .string x.begin_.name_, .int .i64 x.begin_.from_, .int .i64 x.begin_.guid_, .slice x.begin_.own_.A x.begin_.own_.l.length x.begin_.own_.c, .int .i64 x.begin_.index_, .int .i64 x.begin_.count_, .string x.begin_.data_, .int .u64 x.begin_.sum_.a_, .int .u64 x.begin_.sum_.b_, .int .u64 x.begin_.sum_.c_, .int .u64 x.begin_.sum_.d_, .slice x.body_.A x.body_.l.length x.body_.c, .int .i64 x.at_, .int .i64 x.next_, .int .u64 x.sum_.a_, .int .u64 x.sum_.b_, .int .u64 x.sum_.c_, .int .u64 x.sum_.d_, .bool x.done_]
def MStage.plain (x : MStage) : PStage := ⟨x.into_, x.begin_.plain, x.body_.l, x.at_, x.next_, x.sum_.plain, x.done_⟩
structure MStage.Good (W : World) (x : MStage) : Prop where
  ginto_ : x.into_.size ≤ 140737488351232
  gbegin_ : x.begin_.Good W
  gbody_ : SlGood W bkC goodBk 24 x.body_
  gat_ : -9223372036854775808 ≤ x.at_ ∧ x.at_ ≤ 9223372036854775807
  gnext_ : -9223372036854775808 ≤ x.next_ ∧ x.next_ ≤ 9223372036854775807
  gsum_ : x.sum_.Good W
theorem MStage.Good.below {W W' : World} {x : MStage} (h : x.Good W) (hB : Below W.heap.size W W') : x.Good W' := ⟨h.ginto_, h.gbegin_.below hB, h.gbody_.below hB fun _ h => h, h.gat_, h.gnext_, h.gsum_.below hB⟩
structure MStage.Lies (n : Nat) (W : World) (x : MStage) : Prop where
  lbegin_ : x.begin_.Lies n W
  lbody_ : SlLies n W bkC (fun _ => True) x.body_
theorem MStage.Lies.below {n : Nat} {W W' : World} {x : MStage} (h : x.Lies n W) (hB : Below W.heap.size W W') : x.Lies n W' := ⟨h.lbegin_.below hB, h.lbody_.imp (fun r => r.below hB) fun _ h => h⟩
theorem MStage.Lies.mono {n n' : Nat} {W : World} {x : MStage} (h : x.Lies n W) (hn : n' ≤ n) : x.Lies n' W := ⟨h.lbegin_.mono hn, h.lbody_.imp (fun r => r.mono hn) fun _ h => h⟩
theorem MStage.Lies.stays {n : Nat} {W W' : World} {x : MStage} (h : x.Lies n W) (hs : W.heap.size ≤ W'.heap.size) (hk : ∀ k, n ≤ k → k < W.heap.size → W'.heap[k]? = W.heap[k]?) : x.Lies n W' := ⟨h.lbegin_.stays hs hk, h.lbody_.imp (fun r => r.stays hs hk) fun _ h => h⟩
theorem MStage.Good.lies {W : World} {x : MStage} (h : x.Good W) : x.Lies 0 W := ⟨h.gbegin_.lies, h.gbody_.lies fun _ _ => trivial⟩
section
variable {H : Type} {enc : TypeId × Value → H} {W : World}
end
structure MEntry where
  user_ : ByteArray
  kind_ : Int
  path_ : ByteArray
  err_ : Int
abbrev MEntry.cells (x : MEntry) : List Value := [.string x.user_, .int .i64 x.kind_, .string x.path_, .int .i64 x.err_]
def MEntry.plain (x : MEntry) : PEntry := ⟨x.user_, x.kind_, x.path_, x.err_⟩
structure MEntry.Good (W : World) (x : MEntry) : Prop where
  guser_ : x.user_.size ≤ 140737488351232
  gkind_ : -9223372036854775808 ≤ x.kind_ ∧ x.kind_ ≤ 9223372036854775807
  gpath_ : x.path_.size ≤ 140737488351232
  gerr_ : -9223372036854775808 ≤ x.err_ ∧ x.err_ ≤ 9223372036854775807
theorem MEntry.Good.below {W W' : World} {x : MEntry} (h : x.Good W) (_hB : Below W.heap.size W W') : x.Good W' := ⟨h.guser_, h.gkind_, h.gpath_, h.gerr_⟩
section
variable {H : Type} {enc : TypeId × Value → H} {W : World}
end
structure MTenant where
  name_ : ByteArray
  quota_ : Int
  next_ : Int
  sets_ : Sl MSet
  grants_ : Sl Gr
  stages_ : Sl MStage
  log_ : Sl MEntry
abbrev MTenant.cells (x : MTenant) : List Value := [.string x.name_, .int .i64 x.quota_, .int .i64 x.next_, .slice x.sets_.A x.sets_.l.length x.sets_.c, .slice x.grants_.A x.grants_.l.length x.grants_.c, .slice x.stages_.A x.stages_.l.length x.stages_.c, .slice x.log_.A x.log_.l.length x.log_.c]
def MTenant.plain (x : MTenant) : PTenant := ⟨x.name_, x.quota_, x.next_, x.sets_.l.map MSet.plain, x.grants_.l, x.stages_.l.map MStage.plain, x.log_.l.map MEntry.plain⟩
structure MTenant.Good (W : World) (x : MTenant) : Prop where
  gname_ : x.name_.size ≤ 140737488351232
  gquota_ : -9223372036854775808 ≤ x.quota_ ∧ x.quota_ ≤ 9223372036854775807
  gnext_ : -9223372036854775808 ≤ x.next_ ∧ x.next_ ≤ 9223372036854775807
  gsets_ : SlGood W MSet.cells (MSet.Good W) 104 x.sets_
  ggrants_ : SlGood W grC goodGr 40 x.grants_
  gstages_ : SlGood W MStage.cells (MStage.Good W) 224 x.stages_
  glog_ : SlGood W MEntry.cells (MEntry.Good W) 48 x.log_
theorem MTenant.Good.below {W W' : World} {x : MTenant} (h : x.Good W) (hB : Below W.heap.size W W') : x.Good W' := ⟨h.gname_, h.gquota_, h.gnext_, h.gsets_.below hB fun _ h => h.below hB, h.ggrants_.below hB fun _ h => h, h.gstages_.below hB fun _ h => h.below hB, h.glog_.below hB fun _ h => h.below hB⟩
structure MTenant.Lies (n : Nat) (W : World) (x : MTenant) : Prop where
  lsets_ : SlLies n W MSet.cells (MSet.Lies n W) x.sets_
  lgrants_ : SlLies n W grC (fun _ => True) x.grants_
  lstages_ : SlLies n W MStage.cells (MStage.Lies n W) x.stages_
  llog_ : SlLies n W MEntry.cells (fun _ => True) x.log_
theorem MTenant.Lies.below {n : Nat} {W W' : World} {x : MTenant} (h : x.Lies n W) (hB : Below W.heap.size W W') : x.Lies n W' := ⟨h.lsets_.imp (fun r => r.below hB) fun _ h => h.below hB, h.lgrants_.imp (fun r => r.below hB) fun _ h => h, h.lstages_.imp (fun r => r.below hB) fun _ h => h.below hB, h.llog_.imp (fun r => r.below hB) fun _ h => h⟩
theorem MTenant.Lies.mono {n n' : Nat} {W : World} {x : MTenant} (h : x.Lies n W) (hn : n' ≤ n) : x.Lies n' W := ⟨h.lsets_.imp (fun r => r.mono hn) fun _ h => h.mono hn, h.lgrants_.imp (fun r => r.mono hn) fun _ h => h, h.lstages_.imp (fun r => r.mono hn) fun _ h => h.mono hn, h.llog_.imp (fun r => r.mono hn) fun _ h => h⟩
theorem MTenant.Lies.stays {n : Nat} {W W' : World} {x : MTenant} (h : x.Lies n W) (hs : W.heap.size ≤ W'.heap.size) (hk : ∀ k, n ≤ k → k < W.heap.size → W'.heap[k]? = W.heap[k]?) : x.Lies n W' := ⟨h.lsets_.imp (fun r => r.stays hs hk) fun _ h => h.stays hs hk, h.lgrants_.imp (fun r => r.stays hs hk) fun _ h => h, h.lstages_.imp (fun r => r.stays hs hk) fun _ h => h.stays hs hk, h.llog_.imp (fun r => r.stays hs hk) fun _ h => h⟩
theorem MTenant.Good.lies {W : World} {x : MTenant} (h : x.Good W) : x.Lies 0 W := ⟨h.gsets_.lies fun _ h => h.lies, h.ggrants_.lies fun _ _ => trivial, h.gstages_.lies fun _ h => h.lies, h.glog_.lies fun _ _ => trivial⟩
section
variable {H : Type} {enc : TypeId × Value → H} {W : World}
end
end Go.Proofs.YtoabkbnhdekbdaaGreat

/-
 Grants in memory: how lists of them lie. No conditions.
-/
import Derived.Test.YtimmcmjipmkebaaGreatVRL
import Derived.Test.YtimmcmjipmkebaaGreatVOPB
import Derived.Test.YtimmcmjipmkebaaGreatVEM
import Derived.Test.YtimmcmjipmkebaaGreatVTNP
import Derived.Laws.Cover1
import Derived.Laws.StructEq
import Derived.Deep.QuietTactic
import Derived.BigQuiet
import Derived.Deep.DeepCutAuto
namespace Go.Proofs.YtimmcmjipmkebaaGreat
open Go.ChangeShapes Go.WideShapes Go.ChangeAt Go.RowKit
set_option maxRecDepth 100000
abbrev grC (x : Gr) : List Value := [.string x.1, .string x.2.1, .int .i64 x.2.2]
abbrev grV (x : Gr) : Value := .agg #[.string x.1, .string x.2.1, .int .i64 x.2.2]
def grs (l : List Gr) : List Value := l.flatMap grC
theorem Rd.gr {w : World} {A : Option Addr} {l : List Gr} (h : Rd w A (grs l)) {k : Nat} {x : Gr} (hk : l[k]? = some x) :
 ∃ b off, A = some ⟨b, off, none⟩ ∧ b < w.heap.size ∧ w.cell? ⟨b, off + k * 3, none⟩ = some (.string x.1) ∧ w.cell? ⟨b, off + k * 3 + 1, none⟩ = some (.string x.2.1) ∧ w.cell? ⟨b, off + k * 3 + 2, none⟩ = some (.int .i64 x.2.2) := by
 have h1 : (grs l)[k * 3 + 0]? = _ := flat_at_of (cells := grC) (n := 3) (fun _ => rfl) l k 0 x hk (by omega)
 have h2 : (grs l)[k * 3 + 1]? = _ := flat_at_of (cells := grC) (n := 3) (fun _ => rfl) l k 1 x hk (by omega)
 have h3 : (grs l)[k * 3 + 2]? = _ := flat_at_of (cells := grC) (n := 3) (fun _ => rfl) l k 2 x hk (by omega)
 obtain ⟨b, off, e, hb, hc⟩ := h (by intro h0; rw [h0] at h1; simp at h1)
 exact ⟨b, off, e, hb, hc _ _ h1, hc _ _ h2, hc _ _ h3⟩
abbrev ansG (v : Value) (e : Int) : Value := .tuple #[v, .int .i64 e]
section
variable {H : Type} {enc : TypeId × Value → H} {W : World}
theorem kcGr : Tryz.prog.cellsOf 111 = 3 := by kernel_rfl
theorem kcStrG : Tryz.prog.cellsOf 9 = 1 := by kernel_rfl
theorem kcIntG : Tryz.prog.cellsOf 3 = 1 := by kernel_rfl
def goodGr (x : Gr) : Prop := x.1.size ≤ 140737488351232 ∧ x.2.1.size ≤ 140737488351232 ∧ -9223372036854775808 ≤ x.2.2 ∧ x.2.2 ≤ 9223372036854775807
end
theorem kc_Snap : Tryz.prog.cellsOf 49 = 5 := by kernel_rfl
theorem kc_string : Tryz.prog.cellsOf 9 = 1 := by kernel_rfl
theorem kc_int : Tryz.prog.cellsOf 3 = 1 := by kernel_rfl
theorem kc_LBlock : Tryz.prog.cellsOf 45 = 1 := by kernel_rfl
theorem kc_Block : Tryz.prog.cellsOf 106 = 2 := by kernel_rfl
theorem kc_Lstring : Tryz.prog.cellsOf 46 = 1 := by kernel_rfl
theorem kc_LProp : Tryz.prog.cellsOf 47 = 1 := by kernel_rfl
theorem kc_Prop : Tryz.prog.cellsOf 109 = 2 := by kernel_rfl
theorem kc_Set : Tryz.prog.cellsOf 52 = 5 := by kernel_rfl
theorem kc_LSnap : Tryz.prog.cellsOf 50 = 1 := by kernel_rfl
theorem kc_Sum : Tryz.prog.cellsOf 87 = 4 := by kernel_rfl
theorem kc_uint64 : Tryz.prog.cellsOf 85 = 1 := by kernel_rfl
theorem kc_Record : Tryz.prog.cellsOf 89 = 12 := by kernel_rfl
theorem kc_Stage : Tryz.prog.cellsOf 91 = 21 := by kernel_rfl
theorem kc_bool : Tryz.prog.cellsOf 4 = 1 := by kernel_rfl
theorem kc_Entry : Tryz.prog.cellsOf 104 = 4 := by kernel_rfl
theorem kc_Errno : Tryz.prog.cellsOf 28 = 1 := by kernel_rfl
theorem kc_Tenant : Tryz.prog.cellsOf 27 = 7 := by kernel_rfl
theorem kc_LSet : Tryz.prog.cellsOf 22 = 1 := by kernel_rfl
theorem kc_LGrant : Tryz.prog.cellsOf 23 = 1 := by kernel_rfl
theorem kc_Grant : Tryz.prog.cellsOf 111 = 3 := by kernel_rfl
theorem kc_LStage : Tryz.prog.cellsOf 24 = 1 := by kernel_rfl
theorem kc_LEntry : Tryz.prog.cellsOf 25 = 1 := by kernel_rfl
theorem kb_Block : Tryz.prog.bytesOf 106 = 24 := by kernel_rfl
theorem kb_string : Tryz.prog.bytesOf 9 = 16 := by kernel_rfl
theorem kb_Prop : Tryz.prog.bytesOf 109 = 32 := by kernel_rfl
theorem kb_Snap : Tryz.prog.bytesOf 49 = 96 := by kernel_rfl
theorem kb_Set : Tryz.prog.bytesOf 52 = 104 := by kernel_rfl
theorem kb_Grant : Tryz.prog.bytesOf 111 = 40 := by kernel_rfl
theorem kb_Stage : Tryz.prog.bytesOf 91 = 224 := by kernel_rfl
theorem kb_Entry : Tryz.prog.bytesOf 104 = 48 := by kernel_rfl
structure Mna where
 x_ : ByteArray
 z_ : Int
 p_ : Sl Bk
 u_ : Sl ByteArray
 j_ : Sl Pr
abbrev Mna.cells (x : Mna) : List Value := [.string x.x_, .int .i64 x.z_, .slice x.p_.A x.p_.l.length x.p_.c, .slice x.u_.A x.u_.l.length x.u_.c, .slice x.j_.A x.j_.l.length x.j_.c]
def Mna.plain (x : Mna) : PS_ := ⟨x.x_, x.z_, x.p_.l, x.u_.l, x.j_.l⟩
structure Mna.Good (W : World) (x : Mna) : Prop where
 L_ : x.x_.size ≤ 140737488351232
 gguid_ : -9223372036854775808 ≤ x.z_ ∧ x.z_ ≤ 9223372036854775807
 K_ : SlGood W bkC goodBk 24 x.p_
 U_ : SlGood W (fun s : ByteArray => [Value.string s]) (fun s : ByteArray => s.size ≤ 140737488351232) 16 x.u_
 G_ : SlGood W prC goodPr 32 x.j_
theorem Mna.Good.below {W W' : World} {x : Mna} (h : x.Good W) (hB : Below W.heap.size W W') : x.Good W' := ⟨h.L_, h.gguid_, h.K_.below hB fun _ h => h, h.U_.below hB fun _ h => h, h.G_.below hB fun _ h => h⟩
structure Mna.Lies (n : Nat) (W : World) (x : Mna) : Prop where
 lbody_ : SlLies n W bkC (fun _ => True) x.p_
 ltags_ : SlLies n W (fun s : ByteArray => [Value.string s]) (fun _ => True) x.u_
 lown_ : SlLies n W prC (fun _ => True) x.j_
theorem Mna.Lies.below {n : Nat} {W W' : World} {x : Mna} (h : x.Lies n W) (hB : Below W.heap.size W W') : x.Lies n W' := ⟨h.lbody_.imp (fun r => r.below hB) fun _ h => h, h.ltags_.imp (fun r => r.below hB) fun _ h => h, h.lown_.imp (fun r => r.below hB) fun _ h => h⟩
theorem Mna.Lies.mono {n n' : Nat} {W : World} {x : Mna} (h : x.Lies n W) (hn : n' ≤ n) : x.Lies n' W := ⟨h.lbody_.imp (fun r => r.mono hn) fun _ h => h, h.ltags_.imp (fun r => r.mono hn) fun _ h => h, h.lown_.imp (fun r => r.mono hn) fun _ h => h⟩
theorem Mna.Lies.stays {n : Nat} {W W' : World} {x : Mna} (h : x.Lies n W) (hs : W.heap.size ≤ W'.heap.size) (hk : ∀ k, n ≤ k → k < W.heap.size → W'.heap[k]? = W.heap[k]?) : x.Lies n W' := ⟨h.lbody_.imp (fun r => r.stays hs hk) fun _ h => h, h.ltags_.imp (fun r => r.stays hs hk) fun _ h => h, h.lown_.imp (fun r => r.stays hs hk) fun _ h => h⟩
theorem Mna.Good.lies {W : World} {x : Mna} (h : x.Good W) : x.Lies 0 W := ⟨h.K_.lies fun _ _ => trivial, h.U_.lies fun _ _ => trivial, h.G_.lies fun _ _ => trivial⟩
section
variable {H : Type} {enc : TypeId × Value → H} {W : World}
theorem opens_MSnap : Opens enc Tryz.prog W 49 Mna.cells (Mna.Good W) := fun fuel cs x h hf => by
 obtain ⟨xs, n, _, rfl, hl, hxs, hel⟩ := DataW.trod_struct Tryz.underlying49 h
 rw [kc_Snap] at hl
 obtain ⟨c0, c1, c2, c3, c4, rfl⟩ : ∃ c0 c1 c2 c3 c4, cs = [c0, c1, c2, c3, c4] := by
  rcases cs with _ | ⟨c0, _ | ⟨c1, _ | ⟨c2, _ | ⟨c3, _ | ⟨c4, _ | ⟨z, zs⟩⟩⟩⟩⟩⟩ <;> simp at hl
  exact ⟨c0, c1, c2, c3, c4, rfl⟩
 have h0 : DataW.trod enc Tryz.prog W 0 (fun _ => true) true n 9 (([c0, c1, c2, c3, c4].drop 0).take (Tryz.prog.cellsOf 9)) = xs[0]? := hel 0 _ rfl
 rw [kc_string] at h0
 obtain ⟨y0, e0⟩ : ∃ y, xs[0]? = some y := ⟨_, qZa (by rw [hxs]; decide)⟩
 rw [e0] at h0
 obtain ⟨a0, k0, g0⟩ := (opensTx Tryz.underlying9) n [c0] y0 h0 (zgZ Tryz.underlying49 hf (i := 0) rfl (by rw [List.getElem?_map, e0]; rfl))
 have h1 : DataW.trod enc Tryz.prog W 0 (fun _ => true) true n 3 (([c0, c1, c2, c3, c4].drop 1).take (Tryz.prog.cellsOf 3)) = xs[1]? := hel 1 _ rfl
 rw [kc_int] at h1
 obtain ⟨y1, e1⟩ : ∃ y, xs[1]? = some y := ⟨_, qZa (by rw [hxs]; decide)⟩
 rw [e1] at h1
 obtain ⟨a1, k1, g1⟩ := (opensI64 Tryz.underlying3) n [c1] y1 h1 (zgZ Tryz.underlying49 hf (i := 1) rfl (by rw [List.getElem?_map, e1]; rfl))
 have h2 : DataW.trod enc Tryz.prog W 0 (fun _ => true) true n 45 (([c0, c1, c2, c3, c4].drop 2).take (Tryz.prog.cellsOf 45)) = xs[2]? := hel 2 _ rfl
 rw [kc_LBlock] at h2
 obtain ⟨y2, e2⟩ : ∃ y, xs[2]? = some y := ⟨_, qZa (by rw [hxs]; decide)⟩
 rw [e2] at h2
 obtain ⟨a2, k2, g2⟩ := (opensSl Tryz.underlying45 kc_Block kb_Block (by decide) (fun _ => rfl) opensBk) n [c2] y2 h2 (zgZ Tryz.underlying49 hf (i := 2) rfl (by rw [List.getElem?_map, e2]; rfl))
 have h3 : DataW.trod enc Tryz.prog W 0 (fun _ => true) true n 46 (([c0, c1, c2, c3, c4].drop 3).take (Tryz.prog.cellsOf 46)) = xs[3]? := hel 3 _ rfl
 rw [kc_Lstring] at h3
 obtain ⟨y3, e3⟩ : ∃ y, xs[3]? = some y := ⟨_, qZa (by rw [hxs]; decide)⟩
 rw [e3] at h3
 obtain ⟨a3, k3, g3⟩ := (opensSl Tryz.underlying46 kc_string kb_string (by decide) (fun _ => rfl) (opensTx Tryz.underlying9)) n [c3] y3 h3 (zgZ Tryz.underlying49 hf (i := 3) rfl (by rw [List.getElem?_map, e3]; rfl))
 have h4 : DataW.trod enc Tryz.prog W 0 (fun _ => true) true n 47 (([c0, c1, c2, c3, c4].drop 4).take (Tryz.prog.cellsOf 47)) = xs[4]? := hel 4 _ rfl
 rw [kc_LProp] at h4
 obtain ⟨y4, e4⟩ : ∃ y, xs[4]? = some y := ⟨_, qZa (by rw [hxs]; decide)⟩
 rw [e4] at h4
 obtain ⟨a4, k4, g4⟩ := (opensSl Tryz.underlying47 kc_Prop kb_Prop (by decide) (fun _ => rfl) opensPr) n [c4] y4 h4 (zgZ Tryz.underlying49 hf (i := 4) rfl (by rw [List.getElem?_map, e4]; rfl))
 simp only [List.cons.injEq, and_true] at k0
 obtain rfl := k0
 simp only [List.cons.injEq, and_true] at k1
 obtain rfl := k1
 simp only [List.cons.injEq, and_true] at k2
 obtain rfl := k2
 simp only [List.cons.injEq, and_true] at k3
 obtain rfl := k3
 simp only [List.cons.injEq, and_true] at k4
 obtain rfl := k4
 exact ⟨⟨a0, a1, a2, a3, a4⟩, rfl, ⟨g0, g1, g2, g3, g4⟩⟩
end
structure MSet where
 l_ : ByteArray
 m_ : ByteArray
 p_ : Sl Bk
 n_ : Sl Mna
 j_ : Sl Pr
abbrev MSet.cells (x : MSet) : List Value := [.string x.l_, .string x.m_, .slice x.p_.A x.p_.l.length x.p_.c, .slice x.n_.A x.n_.l.length x.n_.c, .slice x.j_.A x.j_.l.length x.j_.c]
def MSet.plain (x : MSet) : PSet := ⟨x.l_, x.m_, x.p_.l, x.n_.l.map Mna.plain, x.j_.l⟩
structure MSet.Good (W : World) (x : MSet) : Prop where
 C_ : x.l_.size ≤ 140737488351232
 gorigin_ : x.m_.size ≤ 140737488351232
 K_ : SlGood W bkC goodBk 24 x.p_
 f_ : SlGood W Mna.cells (Mna.Good W) 96 x.n_
 G_ : SlGood W prC goodPr 32 x.j_
theorem MSet.Good.below {W W' : World} {x : MSet} (h : x.Good W) (hB : Below W.heap.size W W') : x.Good W' := ⟨h.C_, h.gorigin_, h.K_.below hB fun _ h => h, h.f_.below hB fun _ h => h.below hB, h.G_.below hB fun _ h => h⟩
structure MSet.Lies (n : Nat) (W : World) (x : MSet) : Prop where
 lbody_ : SlLies n W bkC (fun _ => True) x.p_
 lsnaps_ : SlLies n W Mna.cells (Mna.Lies n W) x.n_
 lown_ : SlLies n W prC (fun _ => True) x.j_
theorem MSet.Lies.below {n : Nat} {W W' : World} {x : MSet} (h : x.Lies n W) (hB : Below W.heap.size W W') : x.Lies n W' := ⟨h.lbody_.imp (fun r => r.below hB) fun _ h => h, h.lsnaps_.imp (fun r => r.below hB) fun _ h => h.below hB, h.lown_.imp (fun r => r.below hB) fun _ h => h⟩
theorem MSet.Lies.mono {n n' : Nat} {W : World} {x : MSet} (h : x.Lies n W) (hn : n' ≤ n) : x.Lies n' W := ⟨h.lbody_.imp (fun r => r.mono hn) fun _ h => h, h.lsnaps_.imp (fun r => r.mono hn) fun _ h => h.mono hn, h.lown_.imp (fun r => r.mono hn) fun _ h => h⟩
theorem MSet.Lies.stays {n : Nat} {W W' : World} {x : MSet} (h : x.Lies n W) (hs : W.heap.size ≤ W'.heap.size) (hk : ∀ k, n ≤ k → k < W.heap.size → W'.heap[k]? = W.heap[k]?) : x.Lies n W' := ⟨h.lbody_.imp (fun r => r.stays hs hk) fun _ h => h, h.lsnaps_.imp (fun r => r.stays hs hk) fun _ h => h.stays hs hk, h.lown_.imp (fun r => r.stays hs hk) fun _ h => h⟩
theorem MSet.Good.lies {W : World} {x : MSet} (h : x.Good W) : x.Lies 0 W := ⟨h.K_.lies fun _ _ => trivial, h.f_.lies fun _ h => h.lies, h.G_.lies fun _ _ => trivial⟩
section
variable {H : Type} {enc : TypeId × Value → H} {W : World}
end
structure MSum where
 a_ : Int
 b_ : Int
 c_ : Int
 d_ : Int
abbrev MSum.cells (x : MSum) : List Value := [.int .u64 x.a_, .int .u64 x.b_, .int .u64 x.c_, .int .u64 x.d_]
def MSum.plain (x : MSum) : PSum := ⟨x.a_, x.b_, x.c_, x.d_⟩
structure MSum.Good (W : World) (x : MSum) : Prop where
 ga_ : (Lit.int .u64 x.a_).wf = true
 gb_ : (Lit.int .u64 x.b_).wf = true
 gc_ : (Lit.int .u64 x.c_).wf = true
 gd_ : (Lit.int .u64 x.d_).wf = true
theorem MSum.Good.below {W W' : World} {x : MSum} (h : x.Good W) (_hB : Below W.heap.size W W') : x.Good W' := ⟨h.ga_, h.gb_, h.gc_, h.gd_⟩
section
variable {H : Type} {enc : TypeId × Value → H} {W : World}
theorem opens_MSum : Opens enc Tryz.prog W 87 MSum.cells (MSum.Good W) := fun fuel cs x h hf => by
 obtain ⟨xs, n, _, rfl, hl, hxs, hel⟩ := DataW.trod_struct Tryz.underlying87 h
 rw [kc_Sum] at hl
 obtain ⟨c0, c1, c2, c3, rfl⟩ : ∃ c0 c1 c2 c3, cs = [c0, c1, c2, c3] := by
  rcases cs with _ | ⟨c0, _ | ⟨c1, _ | ⟨c2, _ | ⟨c3, _ | ⟨z, zs⟩⟩⟩⟩⟩ <;> simp at hl
  exact ⟨c0, c1, c2, c3, rfl⟩
 have h0 : DataW.trod enc Tryz.prog W 0 (fun _ => true) true n 85 (([c0, c1, c2, c3].drop 0).take (Tryz.prog.cellsOf 85)) = xs[0]? := hel 0 _ rfl
 rw [kc_uint64] at h0
 obtain ⟨y0, e0⟩ : ∃ y, xs[0]? = some y := ⟨_, qZa (by rw [hxs]; decide)⟩
 rw [e0] at h0
 obtain ⟨a0, k0, g0⟩ := (opensU64 Tryz.underlying85) n [c0] y0 h0 (zgZ Tryz.underlying87 hf (i := 0) rfl (by rw [List.getElem?_map, e0]; rfl))
 have h1 : DataW.trod enc Tryz.prog W 0 (fun _ => true) true n 85 (([c0, c1, c2, c3].drop 1).take (Tryz.prog.cellsOf 85)) = xs[1]? := hel 1 _ rfl
 rw [kc_uint64] at h1
 obtain ⟨y1, e1⟩ : ∃ y, xs[1]? = some y := ⟨_, qZa (by rw [hxs]; decide)⟩
 rw [e1] at h1
 obtain ⟨a1, k1, g1⟩ := (opensU64 Tryz.underlying85) n [c1] y1 h1 (zgZ Tryz.underlying87 hf (i := 1) rfl (by rw [List.getElem?_map, e1]; rfl))
 have h2 : DataW.trod enc Tryz.prog W 0 (fun _ => true) true n 85 (([c0, c1, c2, c3].drop 2).take (Tryz.prog.cellsOf 85)) = xs[2]? := hel 2 _ rfl
 rw [kc_uint64] at h2
 obtain ⟨y2, e2⟩ : ∃ y, xs[2]? = some y := ⟨_, qZa (by rw [hxs]; decide)⟩
 rw [e2] at h2
 obtain ⟨a2, k2, g2⟩ := (opensU64 Tryz.underlying85) n [c2] y2 h2 (zgZ Tryz.underlying87 hf (i := 2) rfl (by rw [List.getElem?_map, e2]; rfl))
 have h3 : DataW.trod enc Tryz.prog W 0 (fun _ => true) true n 85 (([c0, c1, c2, c3].drop 3).take (Tryz.prog.cellsOf 85)) = xs[3]? := hel 3 _ rfl
 rw [kc_uint64] at h3
 obtain ⟨y3, e3⟩ : ∃ y, xs[3]? = some y := ⟨_, qZa (by rw [hxs]; decide)⟩
 rw [e3] at h3
 obtain ⟨a3, k3, g3⟩ := (opensU64 Tryz.underlying85) n [c3] y3 h3 (zgZ Tryz.underlying87 hf (i := 3) rfl (by rw [List.getElem?_map, e3]; rfl))
 simp only [List.cons.injEq, and_true] at k0
 obtain rfl := k0
 simp only [List.cons.injEq, and_true] at k1
 obtain rfl := k1
 simp only [List.cons.injEq, and_true] at k2
 obtain rfl := k2
 simp only [List.cons.injEq, and_true] at k3
 obtain rfl := k3
 exact ⟨⟨a0, a1, a2, a3⟩, rfl, ⟨g0, g1, g2, g3⟩⟩
end
structure MR_ where
 N_ : Int
 x_ : ByteArray
 from_ : Int
 z_ : Int
 j_ : Sl Pr
 E_ : Int
 Y_ : Int
 P_ : ByteArray
 T_ : MSum
abbrev MR_.cells (x : MR_) : List Value := [.int .i64 x.N_, .string x.x_, .int .i64 x.from_, .int .i64 x.z_, .slice x.j_.A x.j_.l.length x.j_.c, .int .i64 x.E_, .int .i64 x.Y_, .string x.P_, .int .u64 x.T_.a_, .int .u64 x.T_.b_, .int .u64 x.T_.c_, .int .u64 x.T_.d_]
def MR_.plain (x : MR_) : PRecord := ⟨x.N_, x.x_, x.from_, x.z_, x.j_.l, x.E_, x.Y_, x.P_, x.T_.plain⟩
structure MR_.Good (W : World) (x : MR_) : Prop where
 gkind_ : -9223372036854775808 ≤ x.N_ ∧ x.N_ ≤ 9223372036854775807
 L_ : x.x_.size ≤ 140737488351232
 gfrom_ : -9223372036854775808 ≤ x.from_ ∧ x.from_ ≤ 9223372036854775807
 gguid_ : -9223372036854775808 ≤ x.z_ ∧ x.z_ ≤ 9223372036854775807
 G_ : SlGood W prC goodPr 32 x.j_
 gindex_ : -9223372036854775808 ≤ x.E_ ∧ x.E_ ≤ 9223372036854775807
 gcount_ : -9223372036854775808 ≤ x.Y_ ∧ x.Y_ ≤ 9223372036854775807
 gdata_ : x.P_.size ≤ 140737488351232
 gsum_ : x.T_.Good W
theorem MR_.Good.below {W W' : World} {x : MR_} (h : x.Good W) (hB : Below W.heap.size W W') : x.Good W' := ⟨h.gkind_, h.L_, h.gfrom_, h.gguid_, h.G_.below hB fun _ h => h, h.gindex_, h.gcount_, h.gdata_, h.gsum_.below hB⟩
structure MR_.Lies (n : Nat) (W : World) (x : MR_) : Prop where
 lown_ : SlLies n W prC (fun _ => True) x.j_
theorem MR_.Lies.below {n : Nat} {W W' : World} {x : MR_} (h : x.Lies n W) (hB : Below W.heap.size W W') : x.Lies n W' := ⟨h.lown_.imp (fun r => r.below hB) fun _ h => h⟩
theorem MR_.Lies.mono {n n' : Nat} {W : World} {x : MR_} (h : x.Lies n W) (hn : n' ≤ n) : x.Lies n' W := ⟨h.lown_.imp (fun r => r.mono hn) fun _ h => h⟩
theorem MR_.Lies.stays {n : Nat} {W W' : World} {x : MR_} (h : x.Lies n W) (hs : W.heap.size ≤ W'.heap.size) (hk : ∀ k, n ≤ k → k < W.heap.size → W'.heap[k]? = W.heap[k]?) : x.Lies n W' := ⟨h.lown_.imp (fun r => r.stays hs hk) fun _ h => h⟩
theorem MR_.Good.lies {W : World} {x : MR_} (h : x.Good W) : x.Lies 0 W := ⟨h.G_.lies fun _ _ => trivial⟩
section
variable {H : Type} {enc : TypeId × Value → H} {W : World}
theorem opens_MRecord : Opens enc Tryz.prog W 89 MR_.cells (MR_.Good W) := fun fuel cs x h hf => by
 obtain ⟨xs, n, _, rfl, hl, hxs, hel⟩ := DataW.trod_struct Tryz.underlying89 h
 rw [kc_Record] at hl
 obtain ⟨c0, c1, c2, c3, c4, c5, c6, c7, c8, c9, c10, c11, rfl⟩ : ∃ c0 c1 c2 c3 c4 c5 c6 c7 c8 c9 c10 c11, cs = [c0, c1, c2, c3, c4, c5, c6, c7, c8, c9, c10, c11] := by
  rcases cs with _ | ⟨c0, _ | ⟨c1, _ | ⟨c2, _ | ⟨c3, _ | ⟨c4, _ | ⟨c5, _ | ⟨c6, _ | ⟨c7, _ | ⟨c8, _ | ⟨c9, _ | ⟨c10, _ | ⟨c11, _ | ⟨z, zs⟩⟩⟩⟩⟩⟩⟩⟩⟩⟩⟩⟩⟩ <;> simp at hl
  exact ⟨c0, c1, c2, c3, c4, c5, c6, c7, c8, c9, c10, c11, rfl⟩
 have h0 : DataW.trod enc Tryz.prog W 0 (fun _ => true) true n 3 (([c0, c1, c2, c3, c4, c5, c6, c7, c8, c9, c10, c11].drop 0).take (Tryz.prog.cellsOf 3)) = xs[0]? := hel 0 _ rfl
 rw [kc_int] at h0
 obtain ⟨y0, e0⟩ : ∃ y, xs[0]? = some y := ⟨_, qZa (by rw [hxs]; decide)⟩
 rw [e0] at h0
 obtain ⟨a0, k0, g0⟩ := (opensI64 Tryz.underlying3) n [c0] y0 h0 (zgZ Tryz.underlying89 hf (i := 0) rfl (by rw [List.getElem?_map, e0]; rfl))
 have h1 : DataW.trod enc Tryz.prog W 0 (fun _ => true) true n 9 (([c0, c1, c2, c3, c4, c5, c6, c7, c8, c9, c10, c11].drop 1).take (Tryz.prog.cellsOf 9)) = xs[1]? := hel 1 _ rfl
 rw [kc_string] at h1
 obtain ⟨y1, e1⟩ : ∃ y, xs[1]? = some y := ⟨_, qZa (by rw [hxs]; decide)⟩
 rw [e1] at h1
 obtain ⟨a1, k1, g1⟩ := (opensTx Tryz.underlying9) n [c1] y1 h1 (zgZ Tryz.underlying89 hf (i := 1) rfl (by rw [List.getElem?_map, e1]; rfl))
 have h2 : DataW.trod enc Tryz.prog W 0 (fun _ => true) true n 3 (([c0, c1, c2, c3, c4, c5, c6, c7, c8, c9, c10, c11].drop 2).take (Tryz.prog.cellsOf 3)) = xs[2]? := hel 2 _ rfl
 rw [kc_int] at h2
 obtain ⟨y2, e2⟩ : ∃ y, xs[2]? = some y := ⟨_, qZa (by rw [hxs]; decide)⟩
 rw [e2] at h2
 obtain ⟨a2, k2, g2⟩ := (opensI64 Tryz.underlying3) n [c2] y2 h2 (zgZ Tryz.underlying89 hf (i := 2) rfl (by rw [List.getElem?_map, e2]; rfl))
 have h3 : DataW.trod enc Tryz.prog W 0 (fun _ => true) true n 3 (([c0, c1, c2, c3, c4, c5, c6, c7, c8, c9, c10, c11].drop 3).take (Tryz.prog.cellsOf 3)) = xs[3]? := hel 3 _ rfl
 rw [kc_int] at h3
 obtain ⟨y3, e3⟩ : ∃ y, xs[3]? = some y := ⟨_, qZa (by rw [hxs]; decide)⟩
 rw [e3] at h3
 obtain ⟨a3, k3, g3⟩ := (opensI64 Tryz.underlying3) n [c3] y3 h3 (zgZ Tryz.underlying89 hf (i := 3) rfl (by rw [List.getElem?_map, e3]; rfl))
 have h4 : DataW.trod enc Tryz.prog W 0 (fun _ => true) true n 47 (([c0, c1, c2, c3, c4, c5, c6, c7, c8, c9, c10, c11].drop 4).take (Tryz.prog.cellsOf 47)) = xs[4]? := hel 4 _ rfl
 rw [kc_LProp] at h4
 obtain ⟨y4, e4⟩ : ∃ y, xs[4]? = some y := ⟨_, qZa (by rw [hxs]; decide)⟩
 rw [e4] at h4
 obtain ⟨a4, k4, g4⟩ := (opensSl Tryz.underlying47 kc_Prop kb_Prop (by decide) (fun _ => rfl) opensPr) n [c4] y4 h4 (zgZ Tryz.underlying89 hf (i := 4) rfl (by rw [List.getElem?_map, e4]; rfl))
 have h5 : DataW.trod enc Tryz.prog W 0 (fun _ => true) true n 3 (([c0, c1, c2, c3, c4, c5, c6, c7, c8, c9, c10, c11].drop 5).take (Tryz.prog.cellsOf 3)) = xs[5]? := hel 5 _ rfl
 rw [kc_int] at h5
 obtain ⟨y5, e5⟩ : ∃ y, xs[5]? = some y := ⟨_, qZa (by rw [hxs]; decide)⟩
 rw [e5] at h5
 obtain ⟨a5, k5, g5⟩ := (opensI64 Tryz.underlying3) n [c5] y5 h5 (zgZ Tryz.underlying89 hf (i := 5) rfl (by rw [List.getElem?_map, e5]; rfl))
 have h6 : DataW.trod enc Tryz.prog W 0 (fun _ => true) true n 3 (([c0, c1, c2, c3, c4, c5, c6, c7, c8, c9, c10, c11].drop 6).take (Tryz.prog.cellsOf 3)) = xs[6]? := hel 6 _ rfl
 rw [kc_int] at h6
 obtain ⟨y6, e6⟩ : ∃ y, xs[6]? = some y := ⟨_, qZa (by rw [hxs]; decide)⟩
 rw [e6] at h6
 obtain ⟨a6, k6, g6⟩ := (opensI64 Tryz.underlying3) n [c6] y6 h6 (zgZ Tryz.underlying89 hf (i := 6) rfl (by rw [List.getElem?_map, e6]; rfl))
 have h7 : DataW.trod enc Tryz.prog W 0 (fun _ => true) true n 9 (([c0, c1, c2, c3, c4, c5, c6, c7, c8, c9, c10, c11].drop 7).take (Tryz.prog.cellsOf 9)) = xs[7]? := hel 7 _ rfl
 rw [kc_string] at h7
 obtain ⟨y7, e7⟩ : ∃ y, xs[7]? = some y := ⟨_, qZa (by rw [hxs]; decide)⟩
 rw [e7] at h7
 obtain ⟨a7, k7, g7⟩ := (opensTx Tryz.underlying9) n [c7] y7 h7 (zgZ Tryz.underlying89 hf (i := 7) rfl (by rw [List.getElem?_map, e7]; rfl))
 have h8 : DataW.trod enc Tryz.prog W 0 (fun _ => true) true n 87 (([c0, c1, c2, c3, c4, c5, c6, c7, c8, c9, c10, c11].drop 8).take (Tryz.prog.cellsOf 87)) = xs[8]? := hel 8 _ rfl
 rw [kc_Sum] at h8
 obtain ⟨y8, e8⟩ : ∃ y, xs[8]? = some y := ⟨_, qZa (by rw [hxs]; decide)⟩
 rw [e8] at h8
 obtain ⟨a8, k8, g8⟩ := opens_MSum n [c8, c9, c10, c11] y8 h8 (zgZ Tryz.underlying89 hf (i := 8) rfl (by rw [List.getElem?_map, e8]; rfl))
 simp only [List.cons.injEq, and_true] at k0
 obtain rfl := k0
 simp only [List.cons.injEq, and_true] at k1
 obtain rfl := k1
 simp only [List.cons.injEq, and_true] at k2
 obtain rfl := k2
 simp only [List.cons.injEq, and_true] at k3
 obtain rfl := k3
 simp only [List.cons.injEq, and_true] at k4
 obtain rfl := k4
 simp only [List.cons.injEq, and_true] at k5
 obtain rfl := k5
 simp only [List.cons.injEq, and_true] at k6
 obtain rfl := k6
 simp only [List.cons.injEq, and_true] at k7
 obtain rfl := k7
 simp only [MSum.cells, List.cons.injEq, and_true] at k8
 obtain ⟨rfl, rfl, rfl, rfl⟩ := k8
 exact ⟨⟨a0, a1, a2, a3, a4, a5, a6, a7, a8⟩, rfl, ⟨g0, g1, g2, g3, g4, g5, g6, g7, g8⟩⟩
end
structure Mta where
 S_ : ByteArray
 o_ : MR_
 p_ : Sl Bk
 at_ : Int
 v_ : Int
 T_ : MSum
 done_ : Bool
abbrev Mta.cells (x : Mta) : List Value := [.string x.S_, .int .i64 x.o_.N_, .string x.o_.x_, .int .i64 x.o_.from_, .int .i64 x.o_.z_, .slice x.o_.j_.A x.o_.j_.l.length x.o_.j_.c, .int .i64 x.o_.E_, .int .i64 x.o_.Y_, .string x.o_.P_, .int .u64 x.o_.T_.a_, .int .u64 x.o_.T_.b_, .int .u64 x.o_.T_.c_, .int .u64 x.o_.T_.d_, .slice x.p_.A x.p_.l.length x.p_.c, .int .i64 x.at_, .int .i64 x.v_, .int .u64 x.T_.a_, .int .u64 x.T_.b_, .int .u64 x.T_.c_, .int .u64 x.T_.d_, .bool x.done_]
def Mta.plain (x : Mta) : PStage := ⟨x.S_, x.o_.plain, x.p_.l, x.at_, x.v_, x.T_.plain, x.done_⟩
structure Mta.Good (W : World) (x : Mta) : Prop where
 ginto_ : x.S_.size ≤ 140737488351232
 X_ : x.o_.Good W
 K_ : SlGood W bkC goodBk 24 x.p_
 gat_ : -9223372036854775808 ≤ x.at_ ∧ x.at_ ≤ 9223372036854775807
 gnext_ : -9223372036854775808 ≤ x.v_ ∧ x.v_ ≤ 9223372036854775807
 gsum_ : x.T_.Good W
theorem Mta.Good.below {W W' : World} {x : Mta} (h : x.Good W) (hB : Below W.heap.size W W') : x.Good W' := ⟨h.ginto_, h.X_.below hB, h.K_.below hB fun _ h => h, h.gat_, h.gnext_, h.gsum_.below hB⟩
structure Mta.Lies (n : Nat) (W : World) (x : Mta) : Prop where
 lbegin_ : x.o_.Lies n W
 lbody_ : SlLies n W bkC (fun _ => True) x.p_
theorem Mta.Lies.below {n : Nat} {W W' : World} {x : Mta} (h : x.Lies n W) (hB : Below W.heap.size W W') : x.Lies n W' := ⟨h.lbegin_.below hB, h.lbody_.imp (fun r => r.below hB) fun _ h => h⟩
theorem Mta.Lies.mono {n n' : Nat} {W : World} {x : Mta} (h : x.Lies n W) (hn : n' ≤ n) : x.Lies n' W := ⟨h.lbegin_.mono hn, h.lbody_.imp (fun r => r.mono hn) fun _ h => h⟩
theorem Mta.Lies.stays {n : Nat} {W W' : World} {x : Mta} (h : x.Lies n W) (hs : W.heap.size ≤ W'.heap.size) (hk : ∀ k, n ≤ k → k < W.heap.size → W'.heap[k]? = W.heap[k]?) : x.Lies n W' := ⟨h.lbegin_.stays hs hk, h.lbody_.imp (fun r => r.stays hs hk) fun _ h => h⟩
theorem Mta.Good.lies {W : World} {x : Mta} (h : x.Good W) : x.Lies 0 W := ⟨h.X_.lies, h.K_.lies fun _ _ => trivial⟩
section
variable {H : Type} {enc : TypeId × Value → H} {W : World}
end
structure ME_ where
 O_ : ByteArray
 N_ : Int
 l_ : ByteArray
 err_ : Int
abbrev ME_.cells (x : ME_) : List Value := [.string x.O_, .int .i64 x.N_, .string x.l_, .int .i64 x.err_]
def ME_.plain (x : ME_) : PEntry := ⟨x.O_, x.N_, x.l_, x.err_⟩
structure ME_.Good (W : World) (x : ME_) : Prop where
 guser_ : x.O_.size ≤ 140737488351232
 gkind_ : -9223372036854775808 ≤ x.N_ ∧ x.N_ ≤ 9223372036854775807
 C_ : x.l_.size ≤ 140737488351232
 gerr_ : -9223372036854775808 ≤ x.err_ ∧ x.err_ ≤ 9223372036854775807
theorem ME_.Good.below {W W' : World} {x : ME_} (h : x.Good W) (_hB : Below W.heap.size W W') : x.Good W' := ⟨h.guser_, h.gkind_, h.C_, h.gerr_⟩
section
variable {H : Type} {enc : TypeId × Value → H} {W : World}
end
structure MT_ where
 x_ : ByteArray
 r_ : Int
 v_ : Int
 y_ : Sl MSet
 g_ : Sl Gr
 t_ : Sl Mta
 h_ : Sl ME_
abbrev MT_.cells (x : MT_) : List Value := [.string x.x_, .int .i64 x.r_, .int .i64 x.v_, .slice x.y_.A x.y_.l.length x.y_.c, .slice x.g_.A x.g_.l.length x.g_.c, .slice x.t_.A x.t_.l.length x.t_.c, .slice x.h_.A x.h_.l.length x.h_.c]
def MT_.plain (x : MT_) : PT_ := ⟨x.x_, x.r_, x.v_, x.y_.l.map MSet.plain, x.g_.l, x.t_.l.map Mta.plain, x.h_.l.map ME_.plain⟩
structure MT_.Good (W : World) (x : MT_) : Prop where
 L_ : x.x_.size ≤ 140737488351232
 gquota_ : -9223372036854775808 ≤ x.r_ ∧ x.r_ ≤ 9223372036854775807
 gnext_ : -9223372036854775808 ≤ x.v_ ∧ x.v_ ≤ 9223372036854775807
 w_ : SlGood W MSet.cells (MSet.Good W) 104 x.y_
 Q_ : SlGood W grC goodGr 40 x.g_
 B_ : SlGood W Mta.cells (Mta.Good W) 224 x.t_
 glog_ : SlGood W ME_.cells (ME_.Good W) 48 x.h_
theorem MT_.Good.below {W W' : World} {x : MT_} (h : x.Good W) (hB : Below W.heap.size W W') : x.Good W' := ⟨h.L_, h.gquota_, h.gnext_, h.w_.below hB fun _ h => h.below hB, h.Q_.below hB fun _ h => h, h.B_.below hB fun _ h => h.below hB, h.glog_.below hB fun _ h => h.below hB⟩
structure MT_.Lies (n : Nat) (W : World) (x : MT_) : Prop where
 lsets_ : SlLies n W MSet.cells (MSet.Lies n W) x.y_
 lgrants_ : SlLies n W grC (fun _ => True) x.g_
 lstages_ : SlLies n W Mta.cells (Mta.Lies n W) x.t_
 llog_ : SlLies n W ME_.cells (fun _ => True) x.h_
theorem MT_.Lies.below {n : Nat} {W W' : World} {x : MT_} (h : x.Lies n W) (hB : Below W.heap.size W W') : x.Lies n W' := ⟨h.lsets_.imp (fun r => r.below hB) fun _ h => h.below hB, h.lgrants_.imp (fun r => r.below hB) fun _ h => h, h.lstages_.imp (fun r => r.below hB) fun _ h => h.below hB, h.llog_.imp (fun r => r.below hB) fun _ h => h⟩
theorem MT_.Lies.mono {n n' : Nat} {W : World} {x : MT_} (h : x.Lies n W) (hn : n' ≤ n) : x.Lies n' W := ⟨h.lsets_.imp (fun r => r.mono hn) fun _ h => h.mono hn, h.lgrants_.imp (fun r => r.mono hn) fun _ h => h, h.lstages_.imp (fun r => r.mono hn) fun _ h => h.mono hn, h.llog_.imp (fun r => r.mono hn) fun _ h => h⟩
theorem MT_.Lies.stays {n : Nat} {W W' : World} {x : MT_} (h : x.Lies n W) (hs : W.heap.size ≤ W'.heap.size) (hk : ∀ k, n ≤ k → k < W.heap.size → W'.heap[k]? = W.heap[k]?) : x.Lies n W' := ⟨h.lsets_.imp (fun r => r.stays hs hk) fun _ h => h.stays hs hk, h.lgrants_.imp (fun r => r.stays hs hk) fun _ h => h, h.lstages_.imp (fun r => r.stays hs hk) fun _ h => h.stays hs hk, h.llog_.imp (fun r => r.stays hs hk) fun _ h => h⟩
theorem MT_.Good.lies {W : World} {x : MT_} (h : x.Good W) : x.Lies 0 W := ⟨h.w_.lies fun _ h => h.lies, h.Q_.lies fun _ _ => trivial, h.B_.lies fun _ h => h.lies, h.glog_.lies fun _ _ => trivial⟩
section
variable {H : Type} {enc : TypeId × Value → H} {W : World}
end
theorem isNaN_any (a : ByteArray) (w : World) :
 Calls Tryz.prog 166 #[.string a] w fun e w' => e = .returned (.bool false) ∧ w = w' := by
 have h : (a.toList == a.toList) = true := beq_self_eq_true _
 go_enter Tryz.func166, Tryz.ntmps166
 go_wp2
 go_ret
 exact ⟨rfl, rfl⟩
theorem compare_any (a b : ByteArray) (w : World) :
 Calls Tryz.prog 182 #[.string a, .string b] w fun e w' => e = .returned (.int .i64 (cmpK a b)) ∧ w = w' := by
 obtain ⟨R, hR⟩ : ∃ R, cmpK a b = R := ⟨_, rfl⟩
 rw [hR]
 rcases h1 : Op.bytesLess a.toList b.toList with _ | _
 · rcases h2 : Op.bytesLess b.toList a.toList with _ | _
   · have HR : Hid (R = 0) := zI (by
      rw [← hR, cmpK_eq]
      rcases ltK_tri a b with k | k | k
      · unfold ltK at k; rw [h1] at k; cases k
      · unfold ltK at k; rw [h2] at k; cases k
      · exact k)
     have h3 : (a.toList == b.toList) = true := by
      have := cmpK_eq.1 (hR.trans HR.out)
      rw [this]
      exact beq_self_eq_true _
     clear hR
     go_enter Tryz.func182, Tryz.ntmps182
     go_wp2_with (refine (isNaN_any _ _).mono ?_; rintro e w' ⟨rfl, rfl⟩)
     go_ret
     rw [HR.out]
     exact ⟨rfl, rfl⟩
   · have h4 : (a.toList == b.toList) = false := by
      rw [beq_eq_false_iff_ne]
      intro e
      rw [e] at h1 h2
      rw [h1] at h2
      cases h2
     have HR : Hid (R = 1) := zI (by
      have h3 : a ≠ b := by rintro rfl; rw [h1] at h2; cases h2
      rw [← hR, cmpK, h1, if_neg Bool.false_ne_true, if_neg h3])
     clear hR
     go_enter Tryz.func182, Tryz.ntmps182
     go_wp2_with (refine (isNaN_any _ _).mono ?_; rintro e w' ⟨rfl, rfl⟩)
     go_ret
     rw [HR.out]
     exact ⟨rfl, rfl⟩
 · have HR : Hid (R = -1) := zI (by rw [← hR, cmpK, if_pos h1])
   clear hR
   go_enter Tryz.func182, Tryz.ntmps182
   go_wp2_with (refine (isNaN_any _ _).mono ?_; rintro e w' ⟨rfl, rfl⟩)
   go_ret
   rw [HR.out]
   exact ⟨rfl, rfl⟩
theorem cmpOr_any (R x y : Int) (hR : (if x = 0 then y else x) = R) (b : Nat) (w : World) (_hb : b < w.heap.size) (h0 : w.cell? ⟨b, 0, none⟩ = some (.int .i64 x)) (h1 : w.cell? ⟨b, 1, none⟩ = some (.int .i64 y)) :
 Calls Tryz.prog 181 #[.slice (some ⟨b, 0, none⟩) 2 2] w fun e w' => e = .returned (.int .i64 R) ∧ w = w' := by
 have HRO := zI hR
 clear hR
 go_enter Tryz.func181, Tryz.ntmps181
 go_wp2
 go_loopw [5, 8] (fun _ i W => ∃ k : Nat, k ≤ 2 ∧ i = .int .i64 k ∧ (1 ≤ k → x = 0) ∧ (2 ≤ k → y = 0) ∧ w = W) (fun _ i _ => 2 - (intOf i).toNat)
 case atStart => exact ⟨0, by omega, rfl, by omega, by omega, rfl⟩
 case round =>
  obtain ⟨k, hk, rfl, p0, p1, rfl⟩ := hrel
  rcases (show k = 0 ∨ k = 1 ∨ k = 2 by omega) with rfl | rfl | rfl
  · clear p0 p1
    by_cases hx : x = 0
    · have hq : (x == 0) = true := beq_iff_eq.2 hx
      have HX := zI hx
      clear hx
      go_wp2
      go_roundw
      case rel => exact ⟨1, by omega, by go_num, fun _ => HX.out, by omega, by trivial⟩
      case measure => simp [intOf]
    · have hq : (x == 0) = false := beq_eq_false_iff_ne.2 hx
      have HR : Hid (R = x) := zI (by rw [← HRO.out, if_neg hx])
      clear hx
      go_wp2
      go_ret
      rw [HR.out]
      exact ⟨rfl, rfl⟩
  · have HX := zI (p0 (by omega))
    clear p0 p1
    by_cases hx : y = 0
    · have hq : (y == 0) = true := beq_iff_eq.2 hx
      have HY := zI hx
      clear hx
      go_wp2
      go_roundw
      case rel => exact ⟨2, by omega, by go_num, fun _ => HX.out, fun _ => HY.out, by trivial⟩
      case measure => simp [intOf]
    · have hq : (y == 0) = false := beq_eq_false_iff_ne.2 hx
      have HR : Hid (R = y) := zI (by rw [← HRO.out, if_pos HX.out])
      clear hx
      go_wp2
      go_ret
      rw [HR.out]
      exact ⟨rfl, rfl⟩
  · have HR : Hid (R = 0) := zI (by rw [← HRO.out, if_pos (p0 (by omega)), p1 (by omega)])
    clear p0 p1
    go_wp2
    go_ret
    rw [HR.out]
    exact ⟨rfl, rfl⟩
set_option maxHeartbeats 1000000 in
theorem order_any (x y : Gr) (w : World) :
 Calls Tryz.prog 145 #[grV x, grV y] w fun e w' => e = .returned (.int .i64 (cmpG x y)) ∧ Below w.heap.size w w' := by
 obtain ⟨x1, x2, x3⟩ := x
 obtain ⟨y1, y2, y3⟩ := y
 obtain ⟨R, hR⟩ : ∃ R, cmpG (x1, x2, x3) (y1, y2, y3) = R := ⟨_, rfl⟩
 have HRO : Hid (R = if cmpK x1 y1 = 0 then cmpK x2 y2 else cmpK x1 y1) := zI hR.symm
 rw [hR]
 clear hR
 dsimp only [grV]
 obtain ⟨C1, hC1⟩ : ∃ C, cmpK x1 y1 = C := ⟨_, rfl⟩
 obtain ⟨C2, hC2⟩ : ∃ C, cmpK x2 y2 = C := ⟨_, rfl⟩
 have HC1 := zI (compare_any x1 y1)
 have HC2 := zI (compare_any x2 y2)
 rw [hC1] at HC1 HRO
 rw [hC2] at HC2 HRO
 clear hC1 hC2
 obtain ⟨u1, hw1⟩ : ∃ u1, w.alloc (.cells #[.string x1, .string x2, .int .i64 x3] 111) = u1 := ⟨_, rfl⟩
 have k1 : Blk u1 w.heap.size 111 [.string x1, .string x2, .int .i64 x3] := hw1 ▸ Blk.new w _ _
 have hB1 : Below w.heap.size w u1 := hw1 ▸ (Below.refl _ w).alloc (Nat.le_refl _) _
 have hlt1 : w.heap.size < u1.heap.size := k1.lt
 obtain ⟨u2, hw2⟩ : ∃ u2, u1.alloc (.cells #[.string y1, .string y2, .int .i64 y3] 111) = u2 := ⟨_, rfl⟩
 have k2 : Blk u2 u1.heap.size 111 [.string y1, .string y2, .int .i64 y3] := hw2 ▸ Blk.new u1 _ _
 have hB2 : Below u1.heap.size u1 u2 := hw2 ▸ (Below.refl _ u1).alloc (Nat.le_refl _) _
 have hlt2 : u1.heap.size < u2.heap.size := k2.lt
 have hlt12 : w.heap.size < u2.heap.size := by omega
 have k12 := k1.below hB2 hlt1
 have a0 := k12.cell 0
 have a1 := k12.cell 1
 have b0 := k2.cell 0
 have b1 := k2.cell 1
 simp only [gZa, gZb] at a0 a1 b0 b1
 have HB1 := zI hB1
 have HB2 := zI hB2
 have HW1 := zI hw1
 have HW2 := zI hw2
 clear k1 k2 k12 hB1 hB2 hw1 hw2
 go_enter Tryz.func145, Tryz.ntmps145
 go_upto_region 1 with fail
 have hX : w.heap.size + 1 = u1.heap.size := by rw [← HW1.out, World.size_alloc]
 rw [HW1.out, HW2.out, hX]
 refine wp_region_noPanic ?_
 refine zcX 10 (fun W' => W'.cell? ⟨w.heap.size, 0, none⟩ = some (.string x1) ∧ W'.cell? ⟨w.heap.size, 1, none⟩ = some (.string x2) ∧ W'.cell? ⟨u1.heap.size, 0, none⟩ = some (.string y1) ∧ W'.cell? ⟨u1.heap.size, 1, none⟩ = some (.string y2)) (by kernel_rfl) ⟨a0, a1, b0, b1⟩ (fun hHeld => ?_)
 refine tkA 16 (i := 0) (oi := ⟨some 5, _, _, _, _, _⟩) rfl hHeld ?_
 try simp only [zP]
 refine tkA 16 (i := 1) (oi := ⟨some 6, _, _, _, _, _⟩) rfl hHeld ?_
 try simp only [zP]
 refine tkA 16 (i := 2) (oi := ⟨some 7, _, _, _, _, _⟩) rfl hHeld ?_
 try simp only [zP]
 refine tkA 16 (i := 3) (oi := ⟨some 8, _, _, _, _, _⟩) rfl hHeld ?_
 try simp only [zP]
 refine tkA 16 (i := 5) (oi := ⟨some 10, _, _, _, _, _⟩) rfl hHeld ?_
 try simp only [zP]
 refine tkA 16 (i := 6) (oi := ⟨some 11, _, _, _, _, _⟩) rfl hHeld ?_
 try simp only [zP]
 refine tkA 16 (i := 7) (oi := ⟨some 12, _, _, _, _, _⟩) rfl hHeld ?_
 try simp only [zP]
 refine tkA 16 (i := 8) (oi := ⟨some 13, _, _, _, _, _⟩) rfl hHeld ?_
 try simp only [zP]
 clear hHeld
 refine zdZ 16 2 3 [(4, 9), (9, 14)] (fun s v w => match s with
  | 9 => v = .int .i64 C1
  | 14 => v = .int .i64 C2
  | _ => True) (fun w w' => Below w.heap.size w w') (by kernel_rfl) (by kernel_rfl) bZh ⟨?_, ?_, trivial⟩ (fun w' hB => ⟨(hB.cell (p := ⟨w.heap.size, 0, none⟩) hlt12).trans a0, (hB.cell (p := ⟨w.heap.size, 1, none⟩) hlt12).trans a1, (hB.cell (p := ⟨u1.heap.size, 0, none⟩) hlt2).trans b0, (hB.cell (p := ⟨u1.heap.size, 1, none⟩) hlt2).trans b1⟩) ⟨?_, ?_, trivial⟩ ?_
 focus
  intro v w w' h hB
  exact h
 focus
  intro v w w' h hB
  exact h
 focus
  intro vs w2 hBf hFf o ho K hK
  obtain rfl : (⟨some 9, _, _, _, _, _⟩ : Oper) = o := Option.some.inj ho
  clear ho
  (try simp only [fillL, zQ, zP] at hK ⊢)
  go_simp
  refine (HC1.out w2).mono ?_
  rintro e w3 ⟨rfl, rfl⟩
  refine hK.out _ _ ⟨rfl, Below.refl _ _⟩
 focus
  intro vs w2 hBf hFf o ho K hK
  obtain rfl : (⟨some 14, _, _, _, _, _⟩ : Oper) = o := Option.some.inj ho
  clear ho
  (try simp only [fillL, zQ, zP] at hK ⊢)
  go_simp
  refine (HC2.out w2).mono ?_
  rintro e w3 ⟨rfl, rfl⟩
  refine hK.out _ _ ⟨rfl, Below.refl _ _⟩
 intro vs w2 hBf hFf
 (try simp only [fillL, zQ, zP])
 have e1 : vs 9 = .int .i64 C1 := (hFf (4, 9) (by simp))
 have e2 : vs 14 = .int .i64 C2 := (hFf (9, 14) (by simp))
 simp only [e1, e2]
 have hB02 : Below w.heap.size w u2 := HB1.out.trans (HB2.out.mono HB1.out.size)
 have hB2 : Below w.heap.size w w2 := hB02.trans ((((Below.refl _ u2).drew.trans hBf)).mono hB02.size)
 refine zcZ (i := 10) (o := ⟨some 15, _, _, _, _, _⟩) (by kernel_rfl) rfl (by kernel_rfl) (fun K hK => ?_)
 go_simp
 refine hK.out _ _ ?_
 clear hK K
 try simp only [zP]
 refine zcZ (i := 11) (o := ⟨some 16, _, _, _, _, _⟩) (by kernel_rfl) rfl (by kernel_rfl) (fun K hK => ?_)
 go_simp
 refine (cmpOr_any R C1 C2 HRO.out.symm w2.heap.size (w2.alloc (.cells #[.int .i64 C1, .int .i64 C2] 3)) (by simp) (by simp) (by simp)).mono ?_
 rintro e w3 ⟨rfl, rfl⟩
 go_wp2_with fail
 refine hK.out _ _ ?_
 clear hK K
 try simp only [zP]
 refine zcZ (i := 12) (o := ⟨some 4, _, _, _, _, _⟩) (by kernel_rfl) rfl (by kernel_rfl) (fun K hK => ?_)
 go_simp
 refine hK.out _ _ ?_
 clear hK K
 try simp only [zP]
 refine zdQ (by kernel_rfl) ?_ _
 refine NoPanic.normal ?_
 go_wp2
 go_ret
 exact ⟨rfl, hB2.alloc hB2.size _⟩
theorem beqU (a b : ByteArray) : (a.toList == b.toList) = decide (a = b) := by
 rw [Bool.eq_iff_iff, beq_iff_eq, decide_eq_true_eq]
 constructor
 · intro h
   rw [Lib.toList_data, Lib.toList_data] at h
   exact bs_inj h
 · intro h; rw [h]
theorem gr_ne {x1 y1 x2 y2 : ByteArray} {x3 y3 : Int} (h : ¬ ((x1, x2, x3) : Gr) = (y1, y2, y3)) : (x1.toList == y1.toList) = false ∨ (x1 = y1 ∧ (x2.toList == y2.toList) = false) ∨ (x1 = y1 ∧ x2 = y2 ∧ (x3 == y3) = false) := by
 by_cases h1 : x1 = y1
 · by_cases h2 : x2 = y2
   · refine .inr (.inr ⟨h1, h2, ?_⟩)
     rw [beq_eq_false_iff_ne]
     intro e
     exact h (by rw [h1, h2, e])
   · exact .inr (.inl ⟨h1, by rw [beqU, decide_eq_false h2]⟩)
 · exact .inl (by rw [beqU, decide_eq_false h1])
theorem sameSplitG {α : Type} [DecidableEq α] (a b : List α) (k : Nat) (hp : a.take k = b.take k) (x y : α) (hx : a[k]? = some x) (hy : b[k]? = some y) : a.take (k + 1) = b.take (k + 1) ↔ x = y := by
 rw [List.take_add_one, List.take_add_one, hx, hy, hp]
 simp
set_option maxHeartbeats 1000000 in
theorem refSameG_any (A B : Option Addr) (c d n m : Nat) (a b : List Gr) (hn : a.length = n) (hm : b.length = m) (hl : n ≤ 4398046511104) (hl2 : m ≤ 4398046511104) (w : World) (hr : Rd w A (grs a)) (hs : Rd w B (grs b)) :
 Calls Tryz.prog 53 #[.slice A n c, .slice B m d] w fun e w' => e = .returned (.bool (decide (a = b))) ∧ Below w.heap.size w w' := by
 subst hn hm
 obtain ⟨R, hR⟩ : ∃ R, decide (a = b) = R := ⟨_, rfl⟩
 rw [hR]
 by_cases hab : a.length = b.length
 · have HAB := zI hab
   have hq : ((a.length : Int) == b.length) = true := beq_iff_eq.2 (by omega)
   go_enter Tryz.func53, Tryz.ntmps53
   go_wp2
   clear hq
   go_loopw [5] (fun i W => ∃ k : Nat, k ≤ a.length ∧ i = .int .i64 k ∧ Hid (a.take k = b.take k) ∧ Below w.heap.size w W) (fun i _ => a.length - (intOf i).toNat)
   case atStart => exact ⟨0, Nat.zero_le _, rfl, zI rfl, Below.refl _ _⟩
   case round =>
    obtain ⟨k, hk, rfl, HT, hB⟩ := hrel
    by_cases hlt : k < a.length
    · obtain ⟨x, hx⟩ : ∃ x, a[k]? = some x := ⟨a[k], qZa hlt⟩
      obtain ⟨y, hy⟩ : ∃ y, b[k]? = some y := ⟨b[k]'(by omega), qZa (by omega)⟩
      obtain ⟨ba, oa, rfl, hba, hc0, hc1, hc2⟩ := (Rd.below hr hB).gr hx
      obtain ⟨bb, ob, rfl, hbb, hd0, hd1, hd2⟩ := (Rd.below hs hB).gr hy
      have HS := zI (sameSplitG a b k HT.out x y hx hy)
      clear hx hy
      have hlb : k < b.length := by omega
      by_cases he : x = y
      · subst he
        have HT' : Hid (a.take (k + 1) = b.take (k + 1)) := zI (HS.out.2 rfl)
        clear HT HS hab
        go_wp2_with (go_quiet (fail))
        go_round
        case rel => exact ⟨k + 1, by omega, by go_num, HT', hB.trans (zaX _ _ _)⟩
        case measure => simp [intOf]; omega
      · have HR : Hid (R = false) := zI (by
         rw [← hR]
         refine decide_eq_false fun e => he (HS.out.1 (by rw [e])))
        clear hR HS HT hab
        obtain ⟨x1, x2, x3⟩ := x
        obtain ⟨y1, y2, y3⟩ := y
        dsimp only at hc0 hc1 hc2 hd0 hd1 hd2
        rcases gr_ne he with h | ⟨rfl, h⟩ | ⟨rfl, rfl, h⟩
        all_goals
         clear he
         go_wp2_with (go_quiet (fail))
         go_ret
         rw [HR.out]
         exact ⟨rfl, hB.trans (zaX _ _ _)⟩
    · have HR : Hid (R = true) := zI (by
       have := HT.out
       rw [List.take_of_length_le (by omega), List.take_of_length_le (by omega)] at this
       rw [← hR]
       exact decide_eq_true this)
      have hlb : ¬ k < b.length := by omega
      clear hR HT hab
      go_wp2
      go_ret
      rw [HR.out]
      exact ⟨rfl, hB⟩
 · have HR : Hid (R = false) := zI (by rw [← hR]; exact decide_eq_false fun e => hab (by rw [e]))
   have hq : ((a.length : Int) == b.length) = false := beq_eq_false_iff_ne.2 (by omega)
   clear hR
   go_enter Tryz.func53, Tryz.ntmps53
   go_wp2
   go_ret
   rw [HR.out]
   exact ⟨rfl, Below.refl _ _⟩
end Go.Proofs.YtimmcmjipmkebaaGreat

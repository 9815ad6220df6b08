/-
  Grants in memory: how lists of them lie. No conditions.
-/
import Derived.Test.YtimmcmjipmkebaaGreatUSL
import Derived.Test.YtimmcmjipmkebaaGreatUGY
import Derived.Test.YtimmcmjipmkebaaGreatURL
import Derived.Test.YtimmcmjipmkebaaGreatUOPB
import Derived.Test.YtimmcmjipmkebaaGreatUEM
import Derived.Test.YtimmcmjipmkebaaGreatUTNP
import Derived.Laws.Cover1
import Derived.Laws.StructEq
import Derived.Deep.QuietTactic
import Derived.BigQuiet
import Derived.Deep.DeepCutAuto
namespace Go.Proofs.YtimmcmjipmkebaaGreat
open Go.ChangeShapes Go.WideShapes Go.ChangeAt Go.RowKit
set_option maxRecDepth 100000
abbrev grC (x : Gr) : List Value := [.string x.1, .string x.2.1, .int .i64 x.2.2]
abbrev grV (x : Gr) : Value := .agg #[.string x.1, .string x.2.1, .int .i64 x.2.2]
def grs (l : List Gr) : List Value := l.flatMap grC
theorem Rd.gr {w : World} {A : Option Addr} {l : List Gr} (h : Rd w A (grs l)) {k : Nat} {x : Gr} (hk : l[k]? = some x) :
    ∃ b off, A = some ⟨b, off, none⟩ ∧ b < w.heap.size ∧ w.cell? ⟨b, off + k * 3, none⟩ = some (.string x.1) ∧ w.cell? ⟨b, off + k * 3 + 1, none⟩ = some (.string x.2.1) ∧ w.cell? ⟨b, off + k * 3 + 2, none⟩ = some (.int .i64 x.2.2) := by
  have h1 : (grs l)[k * 3 + 0]? = _ := flat_at_of (cells := grC) (n := 3) (fun _ => rfl) l k 0 x hk (by omega)
  have h2 : (grs l)[k * 3 + 1]? = _ := flat_at_of (cells := grC) (n := 3) (fun _ => rfl) l k 1 x hk (by omega)
  have h3 : (grs l)[k * 3 + 2]? = _ := flat_at_of (cells := grC) (n := 3) (fun _ => rfl) l k 2 x hk (by omega)
  obtain ⟨b, off, e, hb, hc⟩ := h (by intro h0; rw [h0] at h1; simp at h1)
  exact ⟨b, off, e, hb, hc _ _ h1, hc _ _ h2, hc _ _ h3⟩
section
variable {H : Type} {enc : TypeId × Value → H} {W : World}
theorem kcGr : Tryz.prog.cellsOf 111 = 3 := by kernel_rfl
theorem kcStrG : Tryz.prog.cellsOf 9 = 1 := by kernel_rfl
theorem kcIntG : Tryz.prog.cellsOf 3 = 1 := by kernel_rfl
def goodGr (x : Gr) : Prop := x.1.size ≤ 140737488351232 ∧ x.2.1.size ≤ 140737488351232 ∧ -9223372036854775808 ≤ x.2.2 ∧ x.2.2 ≤ 9223372036854775807
theorem opensGr : Opens enc Tryz.prog W 111 grC goodGr := fun fuel cs x h hf => by
  obtain ⟨xs, n, _, rfl, hl, hxs, hel⟩ := DataW.trod_struct Tryz.underlying111 h
  rw [kcGr] at hl
  obtain ⟨c0, c1, c2, rfl⟩ : ∃ c0 c1 c2, cs = [c0, c1, c2] := by
    rcases cs with _ | ⟨a, _ | ⟨b, _ | ⟨d, _ | ⟨e, t⟩⟩⟩⟩ <;> simp at hl
    exact ⟨a, b, d, rfl⟩
  have h0 : DataW.trod enc Tryz.prog W 0 (fun _ => true) true n 9 (([c0, c1, c2].drop 0).take (Tryz.prog.cellsOf 9)) = xs[0]? := hel 0 _ rfl
  have h1 : DataW.trod enc Tryz.prog W 0 (fun _ => true) true n 9 (([c0, c1, c2].drop 1).take (Tryz.prog.cellsOf 9)) = xs[1]? := hel 1 _ rfl
  have h2 : DataW.trod enc Tryz.prog W 0 (fun _ => true) true n 3 (([c0, c1, c2].drop 2).take (Tryz.prog.cellsOf 3)) = xs[2]? := hel 2 _ rfl
  rw [kcStrG] at h0 h1
  rw [kcIntG] at h2
  obtain ⟨y0, e0⟩ : ∃ y, xs[0]? = some y := ⟨_, qZa (by rw [hxs]; decide)⟩
  obtain ⟨y1, e1⟩ : ∃ y, xs[1]? = some y := ⟨_, qZa (by rw [hxs]; decide)⟩
  obtain ⟨y2, e2⟩ : ∃ y, xs[2]? = some y := ⟨_, qZa (by rw [hxs]; decide)⟩
  rw [e0] at h0
  rw [e1] at h1
  rw [e2] at h2
  obtain ⟨a0, k0, g0⟩ := opensTx Tryz.underlying9 n [c0] y0 h0 (fit_part Tryz.underlying111 hf (i := 0) rfl (by rw [List.getElem?_map, e0]; rfl))
  obtain ⟨a1, k1, g1⟩ := opensTx Tryz.underlying9 n [c1] y1 h1 (fit_part Tryz.underlying111 hf (i := 1) rfl (by rw [List.getElem?_map, e1]; rfl))
  obtain ⟨a2, k2, g2⟩ := opensI64 Tryz.underlying3 n [c2] y2 h2 (fit_part Tryz.underlying111 hf (i := 2) rfl (by rw [List.getElem?_map, e2]; rfl))
  injection k0 with k0
  injection k1 with k1
  injection k2 with k2
  subst k0
  subst k1
  subst k2
  exact ⟨(a0, a1, a2), rfl, g0, g1, g2⟩
end
theorem kc_Snap : Tryz.prog.cellsOf 49 = 5 := by kernel_rfl
theorem kc_string : Tryz.prog.cellsOf 9 = 1 := by kernel_rfl
theorem kc_int : Tryz.prog.cellsOf 3 = 1 := by kernel_rfl
theorem kc_LBlock : Tryz.prog.cellsOf 45 = 1 := by kernel_rfl
theorem kc_Block : Tryz.prog.cellsOf 106 = 2 := by kernel_rfl
theorem kc_Lstring : Tryz.prog.cellsOf 46 = 1 := by kernel_rfl
theorem kc_LProp : Tryz.prog.cellsOf 47 = 1 := by kernel_rfl
theorem kc_Prop : Tryz.prog.cellsOf 109 = 2 := by kernel_rfl
theorem kc_Set : Tryz.prog.cellsOf 52 = 5 := by kernel_rfl
theorem kc_LSnap : Tryz.prog.cellsOf 50 = 1 := by kernel_rfl
theorem kc_Sum : Tryz.prog.cellsOf 87 = 4 := by kernel_rfl
theorem kc_uint64 : Tryz.prog.cellsOf 85 = 1 := by kernel_rfl
theorem kc_Record : Tryz.prog.cellsOf 89 = 12 := by kernel_rfl
theorem kc_Stage : Tryz.prog.cellsOf 91 = 21 := by kernel_rfl
theorem kc_bool : Tryz.prog.cellsOf 4 = 1 := by kernel_rfl
theorem kc_Entry : Tryz.prog.cellsOf 104 = 4 := by kernel_rfl
theorem kc_Errno : Tryz.prog.cellsOf 28 = 1 := by kernel_rfl
theorem kc_Tenant : Tryz.prog.cellsOf 27 = 7 := by kernel_rfl
theorem kc_LSet : Tryz.prog.cellsOf 22 = 1 := by kernel_rfl
theorem kc_LGrant : Tryz.prog.cellsOf 23 = 1 := by kernel_rfl
theorem kc_Grant : Tryz.prog.cellsOf 111 = 3 := by kernel_rfl
theorem kc_LStage : Tryz.prog.cellsOf 24 = 1 := by kernel_rfl
theorem kc_LEntry : Tryz.prog.cellsOf 25 = 1 := by kernel_rfl
theorem kb_Block : Tryz.prog.bytesOf 106 = 24 := by kernel_rfl
theorem kb_string : Tryz.prog.bytesOf 9 = 16 := by kernel_rfl
theorem kb_Prop : Tryz.prog.bytesOf 109 = 32 := by kernel_rfl
theorem kb_Snap : Tryz.prog.bytesOf 49 = 96 := by kernel_rfl
theorem kb_Set : Tryz.prog.bytesOf 52 = 104 := by kernel_rfl
theorem kb_Grant : Tryz.prog.bytesOf 111 = 40 := by kernel_rfl
theorem kb_Stage : Tryz.prog.bytesOf 91 = 224 := by kernel_rfl
theorem kb_Entry : Tryz.prog.bytesOf 104 = 48 := by kernel_rfl
structure MSnap where
  name_ : ByteArray
  guid_ : Int
  body_ : Sl Bk
  tags_ : Sl ByteArray
  own_ : Sl Pr
abbrev MSnap.cells (x : MSnap) : List Value := [.string x.name_, .int .i64 x.guid_, .slice x.body_.A x.body_.l.length x.body_.c, .slice x.tags_.A x.tags_.l.length x.tags_.c, .slice x.own_.A x.own_.l.length x.own_.c]
def MSnap.plain (x : MSnap) : PSnap := ⟨x.name_, x.guid_, x.body_.l, x.tags_.l, x.own_.l⟩
structure MSnap.Good (W : World) (x : MSnap) : Prop where
  gname_ : x.name_.size ≤ 140737488351232
  gguid_ : -9223372036854775808 ≤ x.guid_ ∧ x.guid_ ≤ 9223372036854775807
  gbody_ : SlGood W bkC goodBk 24 x.body_
  gtags_ : SlGood W (fun s : ByteArray => [Value.string s]) (fun s : ByteArray => s.size ≤ 140737488351232) 16 x.tags_
  gown_ : SlGood W prC goodPr 32 x.own_
theorem MSnap.Good.below {W W' : World} {x : MSnap} (h : x.Good W) (hB : Below W.heap.size W W') : x.Good W' := ⟨h.gname_, h.gguid_, h.gbody_.below hB fun _ h => h, h.gtags_.below hB fun _ h => h, h.gown_.below hB fun _ h => h⟩
structure MSnap.Lies (n : Nat) (W : World) (x : MSnap) : Prop where
  lbody_ : SlLies n W bkC (fun _ => True) x.body_
  ltags_ : SlLies n W (fun s : ByteArray => [Value.string s]) (fun _ => True) x.tags_
  lown_ : SlLies n W prC (fun _ => True) x.own_
theorem MSnap.Lies.below {n : Nat} {W W' : World} {x : MSnap} (h : x.Lies n W) (hB : Below W.heap.size W W') : x.Lies n W' := ⟨h.lbody_.imp (fun r => r.below hB) fun _ h => h, h.ltags_.imp (fun r => r.below hB) fun _ h => h, h.lown_.imp (fun r => r.below hB) fun _ h => h⟩
theorem MSnap.Lies.mono {n n' : Nat} {W : World} {x : MSnap} (h : x.Lies n W) (hn : n' ≤ n) : x.Lies n' W := ⟨h.lbody_.imp (fun r => r.mono hn) fun _ h => h, h.ltags_.imp (fun r => r.mono hn) fun _ h => h, h.lown_.imp (fun r => r.mono hn) fun _ h => h⟩
theorem MSnap.Lies.stays {n : Nat} {W W' : World} {x : MSnap} (h : x.Lies n W) (hs : W.heap.size ≤ W'.heap.size) (hk : ∀ k, n ≤ k → k < W.heap.size → W'.heap[k]? = W.heap[k]?) : x.Lies n W' := ⟨h.lbody_.imp (fun r => r.stays hs hk) fun _ h => h, h.ltags_.imp (fun r => r.stays hs hk) fun _ h => h, h.lown_.imp (fun r => r.stays hs hk) fun _ h => h⟩
theorem MSnap.Good.lies {W : World} {x : MSnap} (h : x.Good W) : x.Lies 0 W := ⟨h.gbody_.lies fun _ _ => trivial, h.gtags_.lies fun _ _ => trivial, h.gown_.lies fun _ _ => trivial⟩
section
variable {H : Type} {enc : TypeId × Value → H} {W : World}
theorem opens_MSnap : Opens enc Tryz.prog W 49 MSnap.cells (MSnap.Good W) := fun fuel cs x h hf => by
  obtain ⟨xs, n, _, rfl, hl, hxs, hel⟩ := DataW.trod_struct Tryz.underlying49 h
  rw [kc_Snap] at hl
  obtain ⟨c0, c1, c2, c3, c4, rfl⟩ : ∃ c0 c1 c2 c3 c4, cs = [c0, c1, c2, c3, c4] := by
    rcases cs with _ | ⟨c0, _ | ⟨c1, _ | ⟨c2, _ | ⟨c3, _ | ⟨c4, _ | ⟨z, zs⟩⟩⟩⟩⟩⟩ <;> simp at hl
    exact ⟨c0, c1, c2, c3, c4, rfl⟩
  have h0 : DataW.trod enc Tryz.prog W 0 (fun _ => true) true n 9 (([c0, c1, c2, c3, c4].drop 0).take (Tryz.prog.cellsOf 9)) = xs[0]? := hel 0 _ rfl
  rw [kc_string] at h0
  obtain ⟨y0, e0⟩ : ∃ y, xs[0]? = some y := ⟨_, qZa (by rw [hxs]; decide)⟩
  rw [e0] at h0
  obtain ⟨a0, k0, g0⟩ := (opensTx Tryz.underlying9) n [c0] y0 h0 (fit_part Tryz.underlying49 hf (i := 0) rfl (by rw [List.getElem?_map, e0]; rfl))
  have h1 : DataW.trod enc Tryz.prog W 0 (fun _ => true) true n 3 (([c0, c1, c2, c3, c4].drop 1).take (Tryz.prog.cellsOf 3)) = xs[1]? := hel 1 _ rfl
  rw [kc_int] at h1
  obtain ⟨y1, e1⟩ : ∃ y, xs[1]? = some y := ⟨_, qZa (by rw [hxs]; decide)⟩
  rw [e1] at h1
  obtain ⟨a1, k1, g1⟩ := (opensI64 Tryz.underlying3) n [c1] y1 h1 (fit_part Tryz.underlying49 hf (i := 1) rfl (by rw [List.getElem?_map, e1]; rfl))
  have h2 : DataW.trod enc Tryz.prog W 0 (fun _ => true) true n 45 (([c0, c1, c2, c3, c4].drop 2).take (Tryz.prog.cellsOf 45)) = xs[2]? := hel 2 _ rfl
  rw [kc_LBlock] at h2
  obtain ⟨y2, e2⟩ : ∃ y, xs[2]? = some y := ⟨_, qZa (by rw [hxs]; decide)⟩
  rw [e2] at h2
  obtain ⟨a2, k2, g2⟩ := (opensSl Tryz.underlying45 kc_Block kb_Block (by decide) (fun _ => rfl) opensBk) n [c2] y2 h2 (fit_part Tryz.underlying49 hf (i := 2) rfl (by rw [List.getElem?_map, e2]; rfl))
  have h3 : DataW.trod enc Tryz.prog W 0 (fun _ => true) true n 46 (([c0, c1, c2, c3, c4].drop 3).take (Tryz.prog.cellsOf 46)) = xs[3]? := hel 3 _ rfl
  rw [kc_Lstring] at h3
  obtain ⟨y3, e3⟩ : ∃ y, xs[3]? = some y := ⟨_, qZa (by rw [hxs]; decide)⟩
  rw [e3] at h3
  obtain ⟨a3, k3, g3⟩ := (opensSl Tryz.underlying46 kc_string kb_string (by decide) (fun _ => rfl) (opensTx Tryz.underlying9)) n [c3] y3 h3 (fit_part Tryz.underlying49 hf (i := 3) rfl (by rw [List.getElem?_map, e3]; rfl))
  have h4 : DataW.trod enc Tryz.prog W 0 (fun _ => true) true n 47 (([c0, c1, c2, c3, c4].drop 4).take (Tryz.prog.cellsOf 47)) = xs[4]? := hel 4 _ rfl
  rw [kc_LProp] at h4
  obtain ⟨y4, e4⟩ : ∃ y, xs[4]? = some y := ⟨_, qZa (by rw [hxs]; decide)⟩
  rw [e4] at h4
  obtain ⟨a4, k4, g4⟩ := (opensSl Tryz.underlying47 kc_Prop kb_Prop (by decide) (fun _ => rfl) opensPr) n [c4] y4 h4 (fit_part Tryz.underlying49 hf (i := 4) rfl (by rw [List.getElem?_map, e4]; rfl))
  simp only [List.cons.injEq, and_true] at k0
  obtain rfl := k0
  simp only [List.cons.injEq, and_true] at k1
  obtain rfl := k1
  simp only [List.cons.injEq, and_true] at k2
  obtain rfl := k2
  simp only [List.cons.injEq, and_true] at k3
  obtain rfl := k3
  simp only [List.cons.injEq, and_true] at k4
  obtain rfl := k4
  exact ⟨⟨a0, a1, a2, a3, a4⟩, rfl, ⟨g0, g1, g2, g3, g4⟩⟩
end
structure MSet where
  path_ : ByteArray
  origin_ : ByteArray
  body_ : Sl Bk
  snaps_ : Sl MSnap
  own_ : Sl Pr
abbrev MSet.cells (x : MSet) : List Value := [.string x.path_, .string x.origin_, .slice x.body_.A x.body_.l.length x.body_.c, .slice x.snaps_.A x.snaps_.l.length x.snaps_.c, .slice x.own_.A x.own_.l.length x.own_.c]
def MSet.plain (x : MSet) : PSet := ⟨x.path_, x.origin_, x.body_.l, x.snaps_.l.map MSnap.plain, x.own_.l⟩
structure MSet.Good (W : World) (x : MSet) : Prop where
  gpath_ : x.path_.size ≤ 140737488351232
  gorigin_ : x.origin_.size ≤ 140737488351232
  gbody_ : SlGood W bkC goodBk 24 x.body_
  gsnaps_ : SlGood W MSnap.cells (MSnap.Good W) 96 x.snaps_
  gown_ : SlGood W prC goodPr 32 x.own_
theorem MSet.Good.below {W W' : World} {x : MSet} (h : x.Good W) (hB : Below W.heap.size W W') : x.Good W' := ⟨h.gpath_, h.gorigin_, h.gbody_.below hB fun _ h => h, h.gsnaps_.below hB fun _ h => h.below hB, h.gown_.below hB fun _ h => h⟩
structure MSet.Lies (n : Nat) (W : World) (x : MSet) : Prop where
  lbody_ : SlLies n W bkC (fun _ => True) x.body_
  lsnaps_ : SlLies n W MSnap.cells (MSnap.Lies n W) x.snaps_
  lown_ : SlLies n W prC (fun _ => True) x.own_
theorem MSet.Lies.below {n : Nat} {W W' : World} {x : MSet} (h : x.Lies n W) (hB : Below W.heap.size W W') : x.Lies n W' := ⟨h.lbody_.imp (fun r => r.below hB) fun _ h => h, h.lsnaps_.imp (fun r => r.below hB) fun _ h => h.below hB, h.lown_.imp (fun r => r.below hB) fun _ h => h⟩
theorem MSet.Lies.mono {n n' : Nat} {W : World} {x : MSet} (h : x.Lies n W) (hn : n' ≤ n) : x.Lies n' W := ⟨h.lbody_.imp (fun r => r.mono hn) fun _ h => h, h.lsnaps_.imp (fun r => r.mono hn) fun _ h => h.mono hn, h.lown_.imp (fun r => r.mono hn) fun _ h => h⟩
theorem MSet.Lies.stays {n : Nat} {W W' : World} {x : MSet} (h : x.Lies n W) (hs : W.heap.size ≤ W'.heap.size) (hk : ∀ k, n ≤ k → k < W.heap.size → W'.heap[k]? = W.heap[k]?) : x.Lies n W' := ⟨h.lbody_.imp (fun r => r.stays hs hk) fun _ h => h, h.lsnaps_.imp (fun r => r.stays hs hk) fun _ h => h.stays hs hk, h.lown_.imp (fun r => r.stays hs hk) fun _ h => h⟩
theorem MSet.Good.lies {W : World} {x : MSet} (h : x.Good W) : x.Lies 0 W := ⟨h.gbody_.lies fun _ _ => trivial, h.gsnaps_.lies fun _ h => h.lies, h.gown_.lies fun _ _ => trivial⟩
section
variable {H : Type} {enc : TypeId × Value → H} {W : World}
theorem opens_MSet : Opens enc Tryz.prog W 52 MSet.cells (MSet.Good W) := fun fuel cs x h hf => by
  obtain ⟨xs, n, _, rfl, hl, hxs, hel⟩ := DataW.trod_struct Tryz.underlying52 h
  rw [kc_Set] at hl
  obtain ⟨c0, c1, c2, c3, c4, rfl⟩ : ∃ c0 c1 c2 c3 c4, cs = [c0, c1, c2, c3, c4] := by
    rcases cs with _ | ⟨c0, _ | ⟨c1, _ | ⟨c2, _ | ⟨c3, _ | ⟨c4, _ | ⟨z, zs⟩⟩⟩⟩⟩⟩ <;> simp at hl
    exact ⟨c0, c1, c2, c3, c4, rfl⟩
  have h0 : DataW.trod enc Tryz.prog W 0 (fun _ => true) true n 9 (([c0, c1, c2, c3, c4].drop 0).take (Tryz.prog.cellsOf 9)) = xs[0]? := hel 0 _ rfl
  rw [kc_string] at h0
  obtain ⟨y0, e0⟩ : ∃ y, xs[0]? = some y := ⟨_, qZa (by rw [hxs]; decide)⟩
  rw [e0] at h0
  obtain ⟨a0, k0, g0⟩ := (opensTx Tryz.underlying9) n [c0] y0 h0 (fit_part Tryz.underlying52 hf (i := 0) rfl (by rw [List.getElem?_map, e0]; rfl))
  have h1 : DataW.trod enc Tryz.prog W 0 (fun _ => true) true n 9 (([c0, c1, c2, c3, c4].drop 1).take (Tryz.prog.cellsOf 9)) = xs[1]? := hel 1 _ rfl
  rw [kc_string] at h1
  obtain ⟨y1, e1⟩ : ∃ y, xs[1]? = some y := ⟨_, qZa (by rw [hxs]; decide)⟩
  rw [e1] at h1
  obtain ⟨a1, k1, g1⟩ := (opensTx Tryz.underlying9) n [c1] y1 h1 (fit_part Tryz.underlying52 hf (i := 1) rfl (by rw [List.getElem?_map, e1]; rfl))
  have h2 : DataW.trod enc Tryz.prog W 0 (fun _ => true) true n 45 (([c0, c1, c2, c3, c4].drop 2).take (Tryz.prog.cellsOf 45)) = xs[2]? := hel 2 _ rfl
  rw [kc_LBlock] at h2
  obtain ⟨y2, e2⟩ : ∃ y, xs[2]? = some y := ⟨_, qZa (by rw [hxs]; decide)⟩
  rw [e2] at h2
  obtain ⟨a2, k2, g2⟩ := (opensSl Tryz.underlying45 kc_Block kb_Block (by decide) (fun _ => rfl) opensBk) n [c2] y2 h2 (fit_part Tryz.underlying52 hf (i := 2) rfl (by rw [List.getElem?_map, e2]; rfl))
  have h3 : DataW.trod enc Tryz.prog W 0 (fun _ => true) true n 50 (([c0, c1, c2, c3, c4].drop 3).take (Tryz.prog.cellsOf 50)) = xs[3]? := hel 3 _ rfl
  rw [kc_LSnap] at h3
  obtain ⟨y3, e3⟩ : ∃ y, xs[3]? = some y := ⟨_, qZa (by rw [hxs]; decide)⟩
  rw [e3] at h3
  obtain ⟨a3, k3, g3⟩ := (opensSl Tryz.underlying50 kc_Snap kb_Snap (by decide) (fun _ => rfl) opens_MSnap) n [c3] y3 h3 (fit_part Tryz.underlying52 hf (i := 3) rfl (by rw [List.getElem?_map, e3]; rfl))
  have h4 : DataW.trod enc Tryz.prog W 0 (fun _ => true) true n 47 (([c0, c1, c2, c3, c4].drop 4).take (Tryz.prog.cellsOf 47)) = xs[4]? := hel 4 _ rfl
  rw [kc_LProp] at h4
  obtain ⟨y4, e4⟩ : ∃ y, xs[4]? = some y := ⟨_, qZa (by rw [hxs]; decide)⟩
  rw [e4] at h4
  obtain ⟨a4, k4, g4⟩ := (opensSl Tryz.underlying47 kc_Prop kb_Prop (by decide) (fun _ => rfl) opensPr) n [c4] y4 h4 (fit_part Tryz.underlying52 hf (i := 4) rfl (by rw [List.getElem?_map, e4]; rfl))
  simp only [List.cons.injEq, and_true] at k0
  obtain rfl := k0
  simp only [List.cons.injEq, and_true] at k1
  obtain rfl := k1
  simp only [List.cons.injEq, and_true] at k2
  obtain rfl := k2
  simp only [List.cons.injEq, and_true] at k3
  obtain rfl := k3
  simp only [List.cons.injEq, and_true] at k4
  obtain rfl := k4
  exact ⟨⟨a0, a1, a2, a3, a4⟩, rfl, ⟨g0, g1, g2, g3, g4⟩⟩
end
structure MSum where
  a_ : Int
  b_ : Int
  c_ : Int
  d_ : Int
abbrev MSum.cells (x : MSum) : List Value := [.int .u64 x.a_, .int .u64 x.b_, .int .u64 x.c_, .int .u64 x.d_]
def MSum.plain (x : MSum) : PSum := ⟨x.a_, x.b_, x.c_, x.d_⟩
structure MSum.Good (W : World) (x : MSum) : Prop where
  ga_ : (Lit.int .u64 x.a_).wf = true
  gb_ : (Lit.int .u64 x.b_).wf = true
  gc_ : (Lit.int .u64 x.c_).wf = true
  gd_ : (Lit.int .u64 x.d_).wf = true
theorem MSum.Good.below {W W' : World} {x : MSum} (h : x.Good W) (_hB : Below W.heap.size W W') : x.Good W' := ⟨h.ga_, h.gb_, h.gc_, h.gd_⟩
section
variable {H : Type} {enc : TypeId × Value → H} {W : World}
theorem opens_MSum : Opens enc Tryz.prog W 87 MSum.cells (MSum.Good W) := fun fuel cs x h hf => by
  obtain ⟨xs, n, _, rfl, hl, hxs, hel⟩ := DataW.trod_struct Tryz.underlying87 h
  rw [kc_Sum] at hl
  obtain ⟨c0, c1, c2, c3, rfl⟩ : ∃ c0 c1 c2 c3, cs = [c0, c1, c2, c3] := by
    rcases cs with _ | ⟨c0, _ | ⟨c1, _ | ⟨c2, _ | ⟨c3, _ | ⟨z, zs⟩⟩⟩⟩⟩ <;> simp at hl
    exact ⟨c0, c1, c2, c3, rfl⟩
  have h0 : DataW.trod enc Tryz.prog W 0 (fun _ => true) true n 85 (([c0, c1, c2, c3].drop 0).take (Tryz.prog.cellsOf 85)) = xs[0]? := hel 0 _ rfl
  rw [kc_uint64] at h0
  obtain ⟨y0, e0⟩ : ∃ y, xs[0]? = some y := ⟨_, qZa (by rw [hxs]; decide)⟩
  rw [e0] at h0
  obtain ⟨a0, k0, g0⟩ := (opensU64 Tryz.underlying85) n [c0] y0 h0 (fit_part Tryz.underlying87 hf (i := 0) rfl (by rw [List.getElem?_map, e0]; rfl))
  have h1 : DataW.trod enc Tryz.prog W 0 (fun _ => true) true n 85 (([c0, c1, c2, c3].drop 1).take (Tryz.prog.cellsOf 85)) = xs[1]? := hel 1 _ rfl
  rw [kc_uint64] at h1
  obtain ⟨y1, e1⟩ : ∃ y, xs[1]? = some y := ⟨_, qZa (by rw [hxs]; decide)⟩
  rw [e1] at h1
  obtain ⟨a1, k1, g1⟩ := (opensU64 Tryz.underlying85) n [c1] y1 h1 (fit_part Tryz.underlying87 hf (i := 1) rfl (by rw [List.getElem?_map, e1]; rfl))
  have h2 : DataW.trod enc Tryz.prog W 0 (fun _ => true) true n 85 (([c0, c1, c2, c3].drop 2).take (Tryz.prog.cellsOf 85)) = xs[2]? := hel 2 _ rfl
  rw [kc_uint64] at h2
  obtain ⟨y2, e2⟩ : ∃ y, xs[2]? = some y := ⟨_, qZa (by rw [hxs]; decide)⟩
  rw [e2] at h2
  obtain ⟨a2, k2, g2⟩ := (opensU64 Tryz.underlying85) n [c2] y2 h2 (fit_part Tryz.underlying87 hf (i := 2) rfl (by rw [List.getElem?_map, e2]; rfl))
  have h3 : DataW.trod enc Tryz.prog W 0 (fun _ => true) true n 85 (([c0, c1, c2, c3].drop 3).take (Tryz.prog.cellsOf 85)) = xs[3]? := hel 3 _ rfl
  rw [kc_uint64] at h3
  obtain ⟨y3, e3⟩ : ∃ y, xs[3]? = some y := ⟨_, qZa (by rw [hxs]; decide)⟩
  rw [e3] at h3
  obtain ⟨a3, k3, g3⟩ := (opensU64 Tryz.underlying85) n [c3] y3 h3 (fit_part Tryz.underlying87 hf (i := 3) rfl (by rw [List.getElem?_map, e3]; rfl))
  simp only [List.cons.injEq, and_true] at k0
  obtain rfl := k0
  simp only [List.cons.injEq, and_true] at k1
  obtain rfl := k1
  simp only [List.cons.injEq, and_true] at k2
  obtain rfl := k2
  simp only [List.cons.injEq, and_true] at k3
  obtain rfl := k3
  exact ⟨⟨a0, a1, a2, a3⟩, rfl, ⟨g0, g1, g2, g3⟩⟩
end
structure MRecord where
  kind_ : Int
  name_ : ByteArray
  from_ : Int
  guid_ : Int
  own_ : Sl Pr
  index_ : Int
  count_ : Int
  data_ : ByteArray
  sum_ : MSum
abbrev MRecord.cells (x : MRecord) : List Value := [.int .i64 x.kind_, .string x.name_, .int .i64 x.from_, .int .i64 x.guid_, .slice x.own_.A x.own_.l.length x.own_.c, .int .i64 x.index_, .int .i64 x.count_, .string x.data_, .int .u64 x.sum_.a_, .int .u64 x.sum_.b_, .int .u64 x.sum_.c_, .int .u64 x.sum_.d_]
def MRecord.plain (x : MRecord) : PRecord := ⟨x.kind_, x.name_, x.from_, x.guid_, x.own_.l, x.index_, x.count_, x.data_, x.sum_.plain⟩
structure MRecord.Good (W : World) (x : MRecord) : Prop where
  gkind_ : -9223372036854775808 ≤ x.kind_ ∧ x.kind_ ≤ 9223372036854775807
  gname_ : x.name_.size ≤ 140737488351232
  gfrom_ : -9223372036854775808 ≤ x.from_ ∧ x.from_ ≤ 9223372036854775807
  gguid_ : -9223372036854775808 ≤ x.guid_ ∧ x.guid_ ≤ 9223372036854775807
  gown_ : SlGood W prC goodPr 32 x.own_
  gindex_ : -9223372036854775808 ≤ x.index_ ∧ x.index_ ≤ 9223372036854775807
  gcount_ : -9223372036854775808 ≤ x.count_ ∧ x.count_ ≤ 9223372036854775807
  gdata_ : x.data_.size ≤ 140737488351232
  gsum_ : x.sum_.Good W
theorem MRecord.Good.below {W W' : World} {x : MRecord} (h : x.Good W) (hB : Below W.heap.size W W') : x.Good W' := ⟨h.gkind_, h.gname_, h.gfrom_, h.gguid_, h.gown_.below hB fun _ h => h, h.gindex_, h.gcount_, h.gdata_, h.gsum_.below hB⟩
structure MRecord.Lies (n : Nat) (W : World) (x : MRecord) : Prop where
  lown_ : SlLies n W prC (fun _ => True) x.own_
theorem MRecord.Lies.below {n : Nat} {W W' : World} {x : MRecord} (h : x.Lies n W) (hB : Below W.heap.size W W') : x.Lies n W' := ⟨h.lown_.imp (fun r => r.below hB) fun _ h => h⟩
theorem MRecord.Lies.mono {n n' : Nat} {W : World} {x : MRecord} (h : x.Lies n W) (hn : n' ≤ n) : x.Lies n' W := ⟨h.lown_.imp (fun r => r.mono hn) fun _ h => h⟩
theorem MRecord.Lies.stays {n : Nat} {W W' : World} {x : MRecord} (h : x.Lies n W) (hs : W.heap.size ≤ W'.heap.size) (hk : ∀ k, n ≤ k → k < W.heap.size → W'.heap[k]? = W.heap[k]?) : x.Lies n W' := ⟨h.lown_.imp (fun r => r.stays hs hk) fun _ h => h⟩
theorem MRecord.Good.lies {W : World} {x : MRecord} (h : x.Good W) : x.Lies 0 W := ⟨h.gown_.lies fun _ _ => trivial⟩
section
variable {H : Type} {enc : TypeId × Value → H} {W : World}
theorem opens_MRecord : Opens enc Tryz.prog W 89 MRecord.cells (MRecord.Good W) := fun fuel cs x h hf => by
  obtain ⟨xs, n, _, rfl, hl, hxs, hel⟩ := DataW.trod_struct Tryz.underlying89 h
  rw [kc_Record] at hl
  obtain ⟨c0, c1, c2, c3, c4, c5, c6, c7, c8, c9, c10, c11, rfl⟩ : ∃ c0 c1 c2 c3 c4 c5 c6 c7 c8 c9 c10 c11, cs = [c0, c1, c2, c3, c4, c5, c6, c7, c8, c9, c10, c11] := by
    rcases cs with _ | ⟨c0, _ | ⟨c1, _ | ⟨c2, _ | ⟨c3, _ | ⟨c4, _ | ⟨c5, _ | ⟨c6, _ | ⟨c7, _ | ⟨c8, _ | ⟨c9, _ | ⟨c10, _ | ⟨c11, _ | ⟨z, zs⟩⟩⟩⟩⟩⟩⟩⟩⟩⟩⟩⟩⟩ <;> simp at hl
    exact ⟨c0, c1, c2, c3, c4, c5, c6, c7, c8, c9, c10, c11, rfl⟩
  have h0 : DataW.trod enc Tryz.prog W 0 (fun _ => true) true n 3 (([c0, c1, c2, c3, c4, c5, c6, c7, c8, c9, c10, c11].drop 0).take (Tryz.prog.cellsOf 3)) = xs[0]? := hel 0 _ rfl
  rw [kc_int] at h0
  obtain ⟨y0, e0⟩ : ∃ y, xs[0]? = some y := ⟨_, qZa (by rw [hxs]; decide)⟩
  rw [e0] at h0
  obtain ⟨a0, k0, g0⟩ := (opensI64 Tryz.underlying3) n [c0] y0 h0 (fit_part Tryz.underlying89 hf (i := 0) rfl (by rw [List.getElem?_map, e0]; rfl))
  have h1 : DataW.trod enc Tryz.prog W 0 (fun _ => true) true n 9 (([c0, c1, c2, c3, c4, c5, c6, c7, c8, c9, c10, c11].drop 1).take (Tryz.prog.cellsOf 9)) = xs[1]? := hel 1 _ rfl
  rw [kc_string] at h1
  obtain ⟨y1, e1⟩ : ∃ y, xs[1]? = some y := ⟨_, qZa (by rw [hxs]; decide)⟩
  rw [e1] at h1
  obtain ⟨a1, k1, g1⟩ := (opensTx Tryz.underlying9) n [c1] y1 h1 (fit_part Tryz.underlying89 hf (i := 1) rfl (by rw [List.getElem?_map, e1]; rfl))
  have h2 : DataW.trod enc Tryz.prog W 0 (fun _ => true) true n 3 (([c0, c1, c2, c3, c4, c5, c6, c7, c8, c9, c10, c11].drop 2).take (Tryz.prog.cellsOf 3)) = xs[2]? := hel 2 _ rfl
  rw [kc_int] at h2
  obtain ⟨y2, e2⟩ : ∃ y, xs[2]? = some y := ⟨_, qZa (by rw [hxs]; decide)⟩
  rw [e2] at h2
  obtain ⟨a2, k2, g2⟩ := (opensI64 Tryz.underlying3) n [c2] y2 h2 (fit_part Tryz.underlying89 hf (i := 2) rfl (by rw [List.getElem?_map, e2]; rfl))
  have h3 : DataW.trod enc Tryz.prog W 0 (fun _ => true) true n 3 (([c0, c1, c2, c3, c4, c5, c6, c7, c8, c9, c10, c11].drop 3).take (Tryz.prog.cellsOf 3)) = xs[3]? := hel 3 _ rfl
  rw [kc_int] at h3
  obtain ⟨y3, e3⟩ : ∃ y, xs[3]? = some y := ⟨_, qZa (by rw [hxs]; decide)⟩
  rw [e3] at h3
  obtain ⟨a3, k3, g3⟩ := (opensI64 Tryz.underlying3) n [c3] y3 h3 (fit_part Tryz.underlying89 hf (i := 3) rfl (by rw [List.getElem?_map, e3]; rfl))
  have h4 : DataW.trod enc Tryz.prog W 0 (fun _ => true) true n 47 (([c0, c1, c2, c3, c4, c5, c6, c7, c8, c9, c10, c11].drop 4).take (Tryz.prog.cellsOf 47)) = xs[4]? := hel 4 _ rfl
  rw [kc_LProp] at h4
  obtain ⟨y4, e4⟩ : ∃ y, xs[4]? = some y := ⟨_, qZa (by rw [hxs]; decide)⟩
  rw [e4] at h4
  obtain ⟨a4, k4, g4⟩ := (opensSl Tryz.underlying47 kc_Prop kb_Prop (by decide) (fun _ => rfl) opensPr) n [c4] y4 h4 (fit_part Tryz.underlying89 hf (i := 4) rfl (by rw [List.getElem?_map, e4]; rfl))
  have h5 : DataW.trod enc Tryz.prog W 0 (fun _ => true) true n 3 (([c0, c1, c2, c3, c4, c5, c6, c7, c8, c9, c10, c11].drop 5).take (Tryz.prog.cellsOf 3)) = xs[5]? := hel 5 _ rfl
  rw [kc_int] at h5
  obtain ⟨y5, e5⟩ : ∃ y, xs[5]? = some y := ⟨_, qZa (by rw [hxs]; decide)⟩
  rw [e5] at h5
  obtain ⟨a5, k5, g5⟩ := (opensI64 Tryz.underlying3) n [c5] y5 h5 (fit_part Tryz.underlying89 hf (i := 5) rfl (by rw [List.getElem?_map, e5]; rfl))
  have h6 : DataW.trod enc Tryz.prog W 0 (fun _ => true) true n 3 (([c0, c1, c2, c3, c4, c5, c6, c7, c8, c9, c10, c11].drop 6).take (Tryz.prog.cellsOf 3)) = xs[6]? := hel 6 _ rfl
  rw [kc_int] at h6
  obtain ⟨y6, e6⟩ : ∃ y, xs[6]? = some y := ⟨_, qZa (by rw [hxs]; decide)⟩
  rw [e6] at h6
  obtain ⟨a6, k6, g6⟩ := (opensI64 Tryz.underlying3) n [c6] y6 h6 (fit_part Tryz.underlying89 hf (i := 6) rfl (by rw [List.getElem?_map, e6]; rfl))
  have h7 : DataW.trod enc Tryz.prog W 0 (fun _ => true) true n 9 (([c0, c1, c2, c3, c4, c5, c6, c7, c8, c9, c10, c11].drop 7).take (Tryz.prog.cellsOf 9)) = xs[7]? := hel 7 _ rfl
  rw [kc_string] at h7
  obtain ⟨y7, e7⟩ : ∃ y, xs[7]? = some y := ⟨_, qZa (by rw [hxs]; decide)⟩
  rw [e7] at h7
  obtain ⟨a7, k7, g7⟩ := (opensTx Tryz.underlying9) n [c7] y7 h7 (fit_part Tryz.underlying89 hf (i := 7) rfl (by rw [List.getElem?_map, e7]; rfl))
  have h8 : DataW.trod enc Tryz.prog W 0 (fun _ => true) true n 87 (([c0, c1, c2, c3, c4, c5, c6, c7, c8, c9, c10, c11].drop 8).take (Tryz.prog.cellsOf 87)) = xs[8]? := hel 8 _ rfl
  rw [kc_Sum] at h8
  obtain ⟨y8, e8⟩ : ∃ y, xs[8]? = some y := ⟨_, qZa (by rw [hxs]; decide)⟩
  rw [e8] at h8
  obtain ⟨a8, k8, g8⟩ := opens_MSum n [c8, c9, c10, c11] y8 h8 (fit_part Tryz.underlying89 hf (i := 8) rfl (by rw [List.getElem?_map, e8]; rfl))
  simp only [List.cons.injEq, and_true] at k0
  obtain rfl := k0
  simp only [List.cons.injEq, and_true] at k1
  obtain rfl := k1
  simp only [List.cons.injEq, and_true] at k2
  obtain rfl := k2
  simp only [List.cons.injEq, and_true] at k3
  obtain rfl := k3
  simp only [List.cons.injEq, and_true] at k4
  obtain rfl := k4
  simp only [List.cons.injEq, and_true] at k5
  obtain rfl := k5
  simp only [List.cons.injEq, and_true] at k6
  obtain rfl := k6
  simp only [List.cons.injEq, and_true] at k7
  obtain rfl := k7
  simp only [MSum.cells, List.cons.injEq, and_true] at k8
  obtain ⟨rfl, rfl, rfl, rfl⟩ := k8
  exact ⟨⟨a0, a1, a2, a3, a4, a5, a6, a7, a8⟩, rfl, ⟨g0, g1, g2, g3, g4, g5, g6, g7, g8⟩⟩
end
structure MStage where
  into_ : ByteArray
  begin_ : MRecord
  body_ : Sl Bk
  at_ : Int
  next_ : Int
  sum_ : MSum
  done_ : Bool
abbrev MStage.cells (x : MStage) : List Value := [.string x.into_, .int .i64 x.begin_.kind_, .string x.begin_.name_, .int .i64 x.begin_.from_, .int .i64 x.begin_.guid_, .slice x.begin_.own_.A x.begin_.own_.l.length x.begin_.own_.c, .int .i64 x.begin_.index_, .int .i64 x.begin_.count_, .string x.begin_.data_, .int .u64 x.begin_.sum_.a_, .int .u64 x.begin_.sum_.b_, .int .u64 x.begin_.sum_.c_, .int .u64 x.begin_.sum_.d_, .slice x.body_.A x.body_.l.length x.body_.c, .int .i64 x.at_, .int .i64 x.next_, .int .u64 x.sum_.a_, .int .u64 x.sum_.b_, .int .u64 x.sum_.c_, .int .u64 x.sum_.d_, .bool x.done_]
def MStage.plain (x : MStage) : PStage := ⟨x.into_, x.begin_.plain, x.body_.l, x.at_, x.next_, x.sum_.plain, x.done_⟩
structure MStage.Good (W : World) (x : MStage) : Prop where
  ginto_ : x.into_.size ≤ 140737488351232
  gbegin_ : x.begin_.Good W
  gbody_ : SlGood W bkC goodBk 24 x.body_
  gat_ : -9223372036854775808 ≤ x.at_ ∧ x.at_ ≤ 9223372036854775807
  gnext_ : -9223372036854775808 ≤ x.next_ ∧ x.next_ ≤ 9223372036854775807
  gsum_ : x.sum_.Good W
theorem MStage.Good.below {W W' : World} {x : MStage} (h : x.Good W) (hB : Below W.heap.size W W') : x.Good W' := ⟨h.ginto_, h.gbegin_.below hB, h.gbody_.below hB fun _ h => h, h.gat_, h.gnext_, h.gsum_.below hB⟩
structure MStage.Lies (n : Nat) (W : World) (x : MStage) : Prop where
  lbegin_ : x.begin_.Lies n W
  lbody_ : SlLies n W bkC (fun _ => True) x.body_
theorem MStage.Lies.below {n : Nat} {W W' : World} {x : MStage} (h : x.Lies n W) (hB : Below W.heap.size W W') : x.Lies n W' := ⟨h.lbegin_.below hB, h.lbody_.imp (fun r => r.below hB) fun _ h => h⟩
theorem MStage.Lies.mono {n n' : Nat} {W : World} {x : MStage} (h : x.Lies n W) (hn : n' ≤ n) : x.Lies n' W := ⟨h.lbegin_.mono hn, h.lbody_.imp (fun r => r.mono hn) fun _ h => h⟩
theorem MStage.Lies.stays {n : Nat} {W W' : World} {x : MStage} (h : x.Lies n W) (hs : W.heap.size ≤ W'.heap.size) (hk : ∀ k, n ≤ k → k < W.heap.size → W'.heap[k]? = W.heap[k]?) : x.Lies n W' := ⟨h.lbegin_.stays hs hk, h.lbody_.imp (fun r => r.stays hs hk) fun _ h => h⟩
theorem MStage.Good.lies {W : World} {x : MStage} (h : x.Good W) : x.Lies 0 W := ⟨h.gbegin_.lies, h.gbody_.lies fun _ _ => trivial⟩
section
variable {H : Type} {enc : TypeId × Value → H} {W : World}
theorem opens_MStage : Opens enc Tryz.prog W 91 MStage.cells (MStage.Good W) := fun fuel cs x h hf => by
  obtain ⟨xs, n, _, rfl, hl, hxs, hel⟩ := DataW.trod_struct Tryz.underlying91 h
  rw [kc_Stage] at hl
  obtain ⟨c0, c1, c2, c3, c4, c5, c6, c7, c8, c9, c10, c11, c12, c13, c14, c15, c16, c17, c18, c19, c20, rfl⟩ : ∃ c0 c1 c2 c3 c4 c5 c6 c7 c8 c9 c10 c11 c12 c13 c14 c15 c16 c17 c18 c19 c20, cs = [c0, c1, c2, c3, c4, c5, c6, c7, c8, c9, c10, c11, c12, c13, c14, c15, c16, c17, c18, c19, c20] := by
    rcases cs with _ | ⟨c0, _ | ⟨c1, _ | ⟨c2, _ | ⟨c3, _ | ⟨c4, _ | ⟨c5, _ | ⟨c6, _ | ⟨c7, _ | ⟨c8, _ | ⟨c9, _ | ⟨c10, _ | ⟨c11, _ | ⟨c12, _ | ⟨c13, _ | ⟨c14, _ | ⟨c15, _ | ⟨c16, _ | ⟨c17, _ | ⟨c18, _ | ⟨c19, _ | ⟨c20, _ | ⟨z, zs⟩⟩⟩⟩⟩⟩⟩⟩⟩⟩⟩⟩⟩⟩⟩⟩⟩⟩⟩⟩⟩⟩ <;> simp at hl
    exact ⟨c0, c1, c2, c3, c4, c5, c6, c7, c8, c9, c10, c11, c12, c13, c14, c15, c16, c17, c18, c19, c20, rfl⟩
  have h0 : DataW.trod enc Tryz.prog W 0 (fun _ => true) true n 9 (([c0, c1, c2, c3, c4, c5, c6, c7, c8, c9, c10, c11, c12, c13, c14, c15, c16, c17, c18, c19, c20].drop 0).take (Tryz.prog.cellsOf 9)) = xs[0]? := hel 0 _ rfl
  rw [kc_string] at h0
  obtain ⟨y0, e0⟩ : ∃ y, xs[0]? = some y := ⟨_, qZa (by rw [hxs]; decide)⟩
  rw [e0] at h0
  obtain ⟨a0, k0, g0⟩ := (opensTx Tryz.underlying9) n [c0] y0 h0 (fit_part Tryz.underlying91 hf (i := 0) rfl (by rw [List.getElem?_map, e0]; rfl))
  have h1 : DataW.trod enc Tryz.prog W 0 (fun _ => true) true n 89 (([c0, c1, c2, c3, c4, c5, c6, c7, c8, c9, c10, c11, c12, c13, c14, c15, c16, c17, c18, c19, c20].drop 1).take (Tryz.prog.cellsOf 89)) = xs[1]? := hel 1 _ rfl
  rw [kc_Record] at h1
  obtain ⟨y1, e1⟩ : ∃ y, xs[1]? = some y := ⟨_, qZa (by rw [hxs]; decide)⟩
  rw [e1] at h1
  obtain ⟨a1, k1, g1⟩ := opens_MRecord n [c1, c2, c3, c4, c5, c6, c7, c8, c9, c10, c11, c12] y1 h1 (fit_part Tryz.underlying91 hf (i := 1) rfl (by rw [List.getElem?_map, e1]; rfl))
  have h2 : DataW.trod enc Tryz.prog W 0 (fun _ => true) true n 45 (([c0, c1, c2, c3, c4, c5, c6, c7, c8, c9, c10, c11, c12, c13, c14, c15, c16, c17, c18, c19, c20].drop 13).take (Tryz.prog.cellsOf 45)) = xs[2]? := hel 2 _ rfl
  rw [kc_LBlock] at h2
  obtain ⟨y2, e2⟩ : ∃ y, xs[2]? = some y := ⟨_, qZa (by rw [hxs]; decide)⟩
  rw [e2] at h2
  obtain ⟨a2, k2, g2⟩ := (opensSl Tryz.underlying45 kc_Block kb_Block (by decide) (fun _ => rfl) opensBk) n [c13] y2 h2 (fit_part Tryz.underlying91 hf (i := 2) rfl (by rw [List.getElem?_map, e2]; rfl))
  have h3 : DataW.trod enc Tryz.prog W 0 (fun _ => true) true n 3 (([c0, c1, c2, c3, c4, c5, c6, c7, c8, c9, c10, c11, c12, c13, c14, c15, c16, c17, c18, c19, c20].drop 14).take (Tryz.prog.cellsOf 3)) = xs[3]? := hel 3 _ rfl
  rw [kc_int] at h3
  obtain ⟨y3, e3⟩ : ∃ y, xs[3]? = some y := ⟨_, qZa (by rw [hxs]; decide)⟩
  rw [e3] at h3
  obtain ⟨a3, k3, g3⟩ := (opensI64 Tryz.underlying3) n [c14] y3 h3 (fit_part Tryz.underlying91 hf (i := 3) rfl (by rw [List.getElem?_map, e3]; rfl))
  have h4 : DataW.trod enc Tryz.prog W 0 (fun _ => true) true n 3 (([c0, c1, c2, c3, c4, c5, c6, c7, c8, c9, c10, c11, c12, c13, c14, c15, c16, c17, c18, c19, c20].drop 15).take (Tryz.prog.cellsOf 3)) = xs[4]? := hel 4 _ rfl
  rw [kc_int] at h4
  obtain ⟨y4, e4⟩ : ∃ y, xs[4]? = some y := ⟨_, qZa (by rw [hxs]; decide)⟩
  rw [e4] at h4
  obtain ⟨a4, k4, g4⟩ := (opensI64 Tryz.underlying3) n [c15] y4 h4 (fit_part Tryz.underlying91 hf (i := 4) rfl (by rw [List.getElem?_map, e4]; rfl))
  have h5 : DataW.trod enc Tryz.prog W 0 (fun _ => true) true n 87 (([c0, c1, c2, c3, c4, c5, c6, c7, c8, c9, c10, c11, c12, c13, c14, c15, c16, c17, c18, c19, c20].drop 16).take (Tryz.prog.cellsOf 87)) = xs[5]? := hel 5 _ rfl
  rw [kc_Sum] at h5
  obtain ⟨y5, e5⟩ : ∃ y, xs[5]? = some y := ⟨_, qZa (by rw [hxs]; decide)⟩
  rw [e5] at h5
  obtain ⟨a5, k5, g5⟩ := opens_MSum n [c16, c17, c18, c19] y5 h5 (fit_part Tryz.underlying91 hf (i := 5) rfl (by rw [List.getElem?_map, e5]; rfl))
  have h6 : DataW.trod enc Tryz.prog W 0 (fun _ => true) true n 4 (([c0, c1, c2, c3, c4, c5, c6, c7, c8, c9, c10, c11, c12, c13, c14, c15, c16, c17, c18, c19, c20].drop 20).take (Tryz.prog.cellsOf 4)) = xs[6]? := hel 6 _ rfl
  rw [kc_bool] at h6
  obtain ⟨y6, e6⟩ : ∃ y, xs[6]? = some y := ⟨_, qZa (by rw [hxs]; decide)⟩
  rw [e6] at h6
  obtain ⟨a6, k6, g6⟩ := (opensBo Tryz.underlying4) n [c20] y6 h6 (fit_part Tryz.underlying91 hf (i := 6) rfl (by rw [List.getElem?_map, e6]; rfl))
  simp only [List.cons.injEq, and_true] at k0
  obtain rfl := k0
  simp only [MRecord.cells, List.cons.injEq, and_true] at k1
  obtain ⟨rfl, rfl, rfl, rfl, rfl, rfl, rfl, rfl, rfl, rfl, rfl, rfl⟩ := k1
  simp only [List.cons.injEq, and_true] at k2
  obtain rfl := k2
  simp only [List.cons.injEq, and_true] at k3
  obtain rfl := k3
  simp only [List.cons.injEq, and_true] at k4
  obtain rfl := k4
  simp only [MSum.cells, List.cons.injEq, and_true] at k5
  obtain ⟨rfl, rfl, rfl, rfl⟩ := k5
  simp only [List.cons.injEq, and_true] at k6
  obtain rfl := k6
  exact ⟨⟨a0, a1, a2, a3, a4, a5, a6⟩, rfl, ⟨g0, g1, g2, g3, g4, g5⟩⟩
end
structure MEntry where
  user_ : ByteArray
  kind_ : Int
  path_ : ByteArray
  err_ : Int
abbrev MEntry.cells (x : MEntry) : List Value := [.string x.user_, .int .i64 x.kind_, .string x.path_, .int .i64 x.err_]
def MEntry.plain (x : MEntry) : PEntry := ⟨x.user_, x.kind_, x.path_, x.err_⟩
structure MEntry.Good (W : World) (x : MEntry) : Prop where
  guser_ : x.user_.size ≤ 140737488351232
  gkind_ : -9223372036854775808 ≤ x.kind_ ∧ x.kind_ ≤ 9223372036854775807
  gpath_ : x.path_.size ≤ 140737488351232
  gerr_ : -9223372036854775808 ≤ x.err_ ∧ x.err_ ≤ 9223372036854775807
theorem MEntry.Good.below {W W' : World} {x : MEntry} (h : x.Good W) (_hB : Below W.heap.size W W') : x.Good W' := ⟨h.guser_, h.gkind_, h.gpath_, h.gerr_⟩
section
variable {H : Type} {enc : TypeId × Value → H} {W : World}
theorem opens_MEntry : Opens enc Tryz.prog W 104 MEntry.cells (MEntry.Good W) := fun fuel cs x h hf => by
  obtain ⟨xs, n, _, rfl, hl, hxs, hel⟩ := DataW.trod_struct Tryz.underlying104 h
  rw [kc_Entry] at hl
  obtain ⟨c0, c1, c2, c3, rfl⟩ : ∃ c0 c1 c2 c3, cs = [c0, c1, c2, c3] := by
    rcases cs with _ | ⟨c0, _ | ⟨c1, _ | ⟨c2, _ | ⟨c3, _ | ⟨z, zs⟩⟩⟩⟩⟩ <;> simp at hl
    exact ⟨c0, c1, c2, c3, rfl⟩
  have h0 : DataW.trod enc Tryz.prog W 0 (fun _ => true) true n 9 (([c0, c1, c2, c3].drop 0).take (Tryz.prog.cellsOf 9)) = xs[0]? := hel 0 _ rfl
  rw [kc_string] at h0
  obtain ⟨y0, e0⟩ : ∃ y, xs[0]? = some y := ⟨_, qZa (by rw [hxs]; decide)⟩
  rw [e0] at h0
  obtain ⟨a0, k0, g0⟩ := (opensTx Tryz.underlying9) n [c0] y0 h0 (fit_part Tryz.underlying104 hf (i := 0) rfl (by rw [List.getElem?_map, e0]; rfl))
  have h1 : DataW.trod enc Tryz.prog W 0 (fun _ => true) true n 3 (([c0, c1, c2, c3].drop 1).take (Tryz.prog.cellsOf 3)) = xs[1]? := hel 1 _ rfl
  rw [kc_int] at h1
  obtain ⟨y1, e1⟩ : ∃ y, xs[1]? = some y := ⟨_, qZa (by rw [hxs]; decide)⟩
  rw [e1] at h1
  obtain ⟨a1, k1, g1⟩ := (opensI64 Tryz.underlying3) n [c1] y1 h1 (fit_part Tryz.underlying104 hf (i := 1) rfl (by rw [List.getElem?_map, e1]; rfl))
  have h2 : DataW.trod enc Tryz.prog W 0 (fun _ => true) true n 9 (([c0, c1, c2, c3].drop 2).take (Tryz.prog.cellsOf 9)) = xs[2]? := hel 2 _ rfl
  rw [kc_string] at h2
  obtain ⟨y2, e2⟩ : ∃ y, xs[2]? = some y := ⟨_, qZa (by rw [hxs]; decide)⟩
  rw [e2] at h2
  obtain ⟨a2, k2, g2⟩ := (opensTx Tryz.underlying9) n [c2] y2 h2 (fit_part Tryz.underlying104 hf (i := 2) rfl (by rw [List.getElem?_map, e2]; rfl))
  have h3 : DataW.trod enc Tryz.prog W 0 (fun _ => true) true n 28 (([c0, c1, c2, c3].drop 3).take (Tryz.prog.cellsOf 28)) = xs[3]? := hel 3 _ rfl
  rw [kc_Errno] at h3
  obtain ⟨y3, e3⟩ : ∃ y, xs[3]? = some y := ⟨_, qZa (by rw [hxs]; decide)⟩
  rw [e3] at h3
  obtain ⟨a3, k3, g3⟩ := (opensI64 Tryz.underlying28) n [c3] y3 h3 (fit_part Tryz.underlying104 hf (i := 3) rfl (by rw [List.getElem?_map, e3]; rfl))
  simp only [List.cons.injEq, and_true] at k0
  obtain rfl := k0
  simp only [List.cons.injEq, and_true] at k1
  obtain rfl := k1
  simp only [List.cons.injEq, and_true] at k2
  obtain rfl := k2
  simp only [List.cons.injEq, and_true] at k3
  obtain rfl := k3
  exact ⟨⟨a0, a1, a2, a3⟩, rfl, ⟨g0, g1, g2, g3⟩⟩
end
structure MTenant where
  name_ : ByteArray
  quota_ : Int
  next_ : Int
  sets_ : Sl MSet
  grants_ : Sl Gr
  stages_ : Sl MStage
  log_ : Sl MEntry
abbrev MTenant.cells (x : MTenant) : List Value := [.string x.name_, .int .i64 x.quota_, .int .i64 x.next_, .slice x.sets_.A x.sets_.l.length x.sets_.c, .slice x.grants_.A x.grants_.l.length x.grants_.c, .slice x.stages_.A x.stages_.l.length x.stages_.c, .slice x.log_.A x.log_.l.length x.log_.c]
def MTenant.plain (x : MTenant) : PTenant := ⟨x.name_, x.quota_, x.next_, x.sets_.l.map MSet.plain, x.grants_.l, x.stages_.l.map MStage.plain, x.log_.l.map MEntry.plain⟩
structure MTenant.Good (W : World) (x : MTenant) : Prop where
  gname_ : x.name_.size ≤ 140737488351232
  gquota_ : -9223372036854775808 ≤ x.quota_ ∧ x.quota_ ≤ 9223372036854775807
  gnext_ : -9223372036854775808 ≤ x.next_ ∧ x.next_ ≤ 9223372036854775807
  gsets_ : SlGood W MSet.cells (MSet.Good W) 104 x.sets_
  ggrants_ : SlGood W grC goodGr 40 x.grants_
  gstages_ : SlGood W MStage.cells (MStage.Good W) 224 x.stages_
  glog_ : SlGood W MEntry.cells (MEntry.Good W) 48 x.log_
theorem MTenant.Good.below {W W' : World} {x : MTenant} (h : x.Good W) (hB : Below W.heap.size W W') : x.Good W' := ⟨h.gname_, h.gquota_, h.gnext_, h.gsets_.below hB fun _ h => h.below hB, h.ggrants_.below hB fun _ h => h, h.gstages_.below hB fun _ h => h.below hB, h.glog_.below hB fun _ h => h.below hB⟩
structure MTenant.Lies (n : Nat) (W : World) (x : MTenant) : Prop where
  lsets_ : SlLies n W MSet.cells (MSet.Lies n W) x.sets_
  lgrants_ : SlLies n W grC (fun _ => True) x.grants_
  lstages_ : SlLies n W MStage.cells (MStage.Lies n W) x.stages_
  llog_ : SlLies n W MEntry.cells (fun _ => True) x.log_
theorem MTenant.Lies.below {n : Nat} {W W' : World} {x : MTenant} (h : x.Lies n W) (hB : Below W.heap.size W W') : x.Lies n W' := ⟨h.lsets_.imp (fun r => r.below hB) fun _ h => h.below hB, h.lgrants_.imp (fun r => r.below hB) fun _ h => h, h.lstages_.imp (fun r => r.below hB) fun _ h => h.below hB, h.llog_.imp (fun r => r.below hB) fun _ h => h⟩
theorem MTenant.Lies.mono {n n' : Nat} {W : World} {x : MTenant} (h : x.Lies n W) (hn : n' ≤ n) : x.Lies n' W := ⟨h.lsets_.imp (fun r => r.mono hn) fun _ h => h.mono hn, h.lgrants_.imp (fun r => r.mono hn) fun _ h => h, h.lstages_.imp (fun r => r.mono hn) fun _ h => h.mono hn, h.llog_.imp (fun r => r.mono hn) fun _ h => h⟩
theorem MTenant.Lies.stays {n : Nat} {W W' : World} {x : MTenant} (h : x.Lies n W) (hs : W.heap.size ≤ W'.heap.size) (hk : ∀ k, n ≤ k → k < W.heap.size → W'.heap[k]? = W.heap[k]?) : x.Lies n W' := ⟨h.lsets_.imp (fun r => r.stays hs hk) fun _ h => h.stays hs hk, h.lgrants_.imp (fun r => r.stays hs hk) fun _ h => h, h.lstages_.imp (fun r => r.stays hs hk) fun _ h => h.stays hs hk, h.llog_.imp (fun r => r.stays hs hk) fun _ h => h⟩
theorem MTenant.Good.lies {W : World} {x : MTenant} (h : x.Good W) : x.Lies 0 W := ⟨h.gsets_.lies fun _ h => h.lies, h.ggrants_.lies fun _ _ => trivial, h.gstages_.lies fun _ h => h.lies, h.glog_.lies fun _ _ => trivial⟩
section
variable {H : Type} {enc : TypeId × Value → H} {W : World}
theorem opens_MTenant : Opens enc Tryz.prog W 27 MTenant.cells (MTenant.Good W) := fun fuel cs x h hf => by
  obtain ⟨xs, n, _, rfl, hl, hxs, hel⟩ := DataW.trod_struct Tryz.underlying27 h
  rw [kc_Tenant] at hl
  obtain ⟨c0, c1, c2, c3, c4, c5, c6, rfl⟩ : ∃ c0 c1 c2 c3 c4 c5 c6, cs = [c0, c1, c2, c3, c4, c5, c6] := by
    rcases cs with _ | ⟨c0, _ | ⟨c1, _ | ⟨c2, _ | ⟨c3, _ | ⟨c4, _ | ⟨c5, _ | ⟨c6, _ | ⟨z, zs⟩⟩⟩⟩⟩⟩⟩⟩ <;> simp at hl
    exact ⟨c0, c1, c2, c3, c4, c5, c6, rfl⟩
  have h0 : DataW.trod enc Tryz.prog W 0 (fun _ => true) true n 9 (([c0, c1, c2, c3, c4, c5, c6].drop 0).take (Tryz.prog.cellsOf 9)) = xs[0]? := hel 0 _ rfl
  rw [kc_string] at h0
  obtain ⟨y0, e0⟩ : ∃ y, xs[0]? = some y := ⟨_, qZa (by rw [hxs]; decide)⟩
  rw [e0] at h0
  obtain ⟨a0, k0, g0⟩ := (opensTx Tryz.underlying9) n [c0] y0 h0 (fit_part Tryz.underlying27 hf (i := 0) rfl (by rw [List.getElem?_map, e0]; rfl))
  have h1 : DataW.trod enc Tryz.prog W 0 (fun _ => true) true n 3 (([c0, c1, c2, c3, c4, c5, c6].drop 1).take (Tryz.prog.cellsOf 3)) = xs[1]? := hel 1 _ rfl
  rw [kc_int] at h1
  obtain ⟨y1, e1⟩ : ∃ y, xs[1]? = some y := ⟨_, qZa (by rw [hxs]; decide)⟩
  rw [e1] at h1
  obtain ⟨a1, k1, g1⟩ := (opensI64 Tryz.underlying3) n [c1] y1 h1 (fit_part Tryz.underlying27 hf (i := 1) rfl (by rw [List.getElem?_map, e1]; rfl))
  have h2 : DataW.trod enc Tryz.prog W 0 (fun _ => true) true n 3 (([c0, c1, c2, c3, c4, c5, c6].drop 2).take (Tryz.prog.cellsOf 3)) = xs[2]? := hel 2 _ rfl
  rw [kc_int] at h2
  obtain ⟨y2, e2⟩ : ∃ y, xs[2]? = some y := ⟨_, qZa (by rw [hxs]; decide)⟩
  rw [e2] at h2
  obtain ⟨a2, k2, g2⟩ := (opensI64 Tryz.underlying3) n [c2] y2 h2 (fit_part Tryz.underlying27 hf (i := 2) rfl (by rw [List.getElem?_map, e2]; rfl))
  have h3 : DataW.trod enc Tryz.prog W 0 (fun _ => true) true n 22 (([c0, c1, c2, c3, c4, c5, c6].drop 3).take (Tryz.prog.cellsOf 22)) = xs[3]? := hel 3 _ rfl
  rw [kc_LSet] at h3
  obtain ⟨y3, e3⟩ : ∃ y, xs[3]? = some y := ⟨_, qZa (by rw [hxs]; decide)⟩
  rw [e3] at h3
  obtain ⟨a3, k3, g3⟩ := (opensSl Tryz.underlying22 kc_Set kb_Set (by decide) (fun _ => rfl) opens_MSet) n [c3] y3 h3 (fit_part Tryz.underlying27 hf (i := 3) rfl (by rw [List.getElem?_map, e3]; rfl))
  have h4 : DataW.trod enc Tryz.prog W 0 (fun _ => true) true n 23 (([c0, c1, c2, c3, c4, c5, c6].drop 4).take (Tryz.prog.cellsOf 23)) = xs[4]? := hel 4 _ rfl
  rw [kc_LGrant] at h4
  obtain ⟨y4, e4⟩ : ∃ y, xs[4]? = some y := ⟨_, qZa (by rw [hxs]; decide)⟩
  rw [e4] at h4
  obtain ⟨a4, k4, g4⟩ := (opensSl Tryz.underlying23 kc_Grant kb_Grant (by decide) (fun _ => rfl) opensGr) n [c4] y4 h4 (fit_part Tryz.underlying27 hf (i := 4) rfl (by rw [List.getElem?_map, e4]; rfl))
  have h5 : DataW.trod enc Tryz.prog W 0 (fun _ => true) true n 24 (([c0, c1, c2, c3, c4, c5, c6].drop 5).take (Tryz.prog.cellsOf 24)) = xs[5]? := hel 5 _ rfl
  rw [kc_LStage] at h5
  obtain ⟨y5, e5⟩ : ∃ y, xs[5]? = some y := ⟨_, qZa (by rw [hxs]; decide)⟩
  rw [e5] at h5
  obtain ⟨a5, k5, g5⟩ := (opensSl Tryz.underlying24 kc_Stage kb_Stage (by decide) (fun _ => rfl) opens_MStage) n [c5] y5 h5 (fit_part Tryz.underlying27 hf (i := 5) rfl (by rw [List.getElem?_map, e5]; rfl))
  have h6 : DataW.trod enc Tryz.prog W 0 (fun _ => true) true n 25 (([c0, c1, c2, c3, c4, c5, c6].drop 6).take (Tryz.prog.cellsOf 25)) = xs[6]? := hel 6 _ rfl
  rw [kc_LEntry] at h6
  obtain ⟨y6, e6⟩ : ∃ y, xs[6]? = some y := ⟨_, qZa (by rw [hxs]; decide)⟩
  rw [e6] at h6
  obtain ⟨a6, k6, g6⟩ := (opensSl Tryz.underlying25 kc_Entry kb_Entry (by decide) (fun _ => rfl) opens_MEntry) n [c6] y6 h6 (fit_part Tryz.underlying27 hf (i := 6) rfl (by rw [List.getElem?_map, e6]; rfl))
  simp only [List.cons.injEq, and_true] at k0
  obtain rfl := k0
  simp only [List.cons.injEq, and_true] at k1
  obtain rfl := k1
  simp only [List.cons.injEq, and_true] at k2
  obtain rfl := k2
  simp only [List.cons.injEq, and_true] at k3
  obtain rfl := k3
  simp only [List.cons.injEq, and_true] at k4
  obtain rfl := k4
  simp only [List.cons.injEq, and_true] at k5
  obtain rfl := k5
  simp only [List.cons.injEq, and_true] at k6
  obtain rfl := k6
  exact ⟨⟨a0, a1, a2, a3, a4, a5, a6⟩, rfl, ⟨g0, g1, g2, g3, g4, g5, g6⟩⟩
end
theorem isNaN_any (a : ByteArray) (w : World) :
    Calls Tryz.prog 166 #[.string a] w fun e w' => e = .returned (.bool false) ∧ w = w' := by
  have h : (a.toList == a.toList) = true := beq_self_eq_true _
  go_enter Tryz.func166, Tryz.ntmps166
  go_wp2
  go_ret
  exact ⟨rfl, rfl⟩
theorem compare_any (a b : ByteArray) (w : World) :
    Calls Tryz.prog 182 #[.string a, .string b] w fun e w' => e = .returned (.int .i64 (cmpK a b)) ∧ w = w' := by
  obtain ⟨R, hR⟩ : ∃ R, cmpK a b = R := ⟨_, rfl⟩
  rw [hR]
  rcases h1 : Op.bytesLess a.toList b.toList with _ | _
  · rcases h2 : Op.bytesLess b.toList a.toList with _ | _
    · have HR : Hid (R = 0) := Lib.hid (by
        rw [← hR, cmpK_eq]
        rcases ltK_tri a b with k | k | k
        · unfold ltK at k; rw [h1] at k; cases k
        · unfold ltK at k; rw [h2] at k; cases k
        · exact k)
      have h3 : (a.toList == b.toList) = true := by
        have := cmpK_eq.1 (hR.trans HR.out)
        rw [this]
        exact beq_self_eq_true _
      clear hR
      go_enter Tryz.func182, Tryz.ntmps182
      go_wp2_with (refine (isNaN_any _ _).mono ?_; rintro e w' ⟨rfl, rfl⟩)
      go_ret
      rw [HR.out]
      exact ⟨rfl, rfl⟩
    · have h4 : (a.toList == b.toList) = false := by
        rw [beq_eq_false_iff_ne]
        intro e
        rw [e] at h1 h2
        rw [h1] at h2
        cases h2
      have HR : Hid (R = 1) := Lib.hid (by
        have h3 : a ≠ b := by rintro rfl; rw [h1] at h2; cases h2
        rw [← hR, cmpK, h1, if_neg Bool.false_ne_true, if_neg h3])
      clear hR
      go_enter Tryz.func182, Tryz.ntmps182
      go_wp2_with (refine (isNaN_any _ _).mono ?_; rintro e w' ⟨rfl, rfl⟩)
      go_ret
      rw [HR.out]
      exact ⟨rfl, rfl⟩
  · have HR : Hid (R = -1) := Lib.hid (by rw [← hR, cmpK, if_pos h1])
    clear hR
    go_enter Tryz.func182, Tryz.ntmps182
    go_wp2_with (refine (isNaN_any _ _).mono ?_; rintro e w' ⟨rfl, rfl⟩)
    go_ret
    rw [HR.out]
    exact ⟨rfl, rfl⟩
theorem cmpOr_any (R x y : Int) (hR : (if x = 0 then y else x) = R) (b : Nat) (w : World) (_hb : b < w.heap.size) (h0 : w.cell? ⟨b, 0, none⟩ = some (.int .i64 x)) (h1 : w.cell? ⟨b, 1, none⟩ = some (.int .i64 y)) :
    Calls Tryz.prog 181 #[.slice (some ⟨b, 0, none⟩) 2 2] w fun e w' => e = .returned (.int .i64 R) ∧ w = w' := by
  have HRO := Lib.hid hR
  clear hR
  go_enter Tryz.func181, Tryz.ntmps181
  go_wp2
  go_loopw [5, 8] (fun _ i W => ∃ k : Nat, k ≤ 2 ∧ i = .int .i64 k ∧ (1 ≤ k → x = 0) ∧ (2 ≤ k → y = 0) ∧ w = W) (fun _ i _ => 2 - (intOf i).toNat)
  case atStart => exact ⟨0, by omega, rfl, by omega, by omega, rfl⟩
  case round =>
    obtain ⟨k, hk, rfl, p0, p1, rfl⟩ := hrel
    rcases (show k = 0 ∨ k = 1 ∨ k = 2 by omega) with rfl | rfl | rfl
    · clear p0 p1
      by_cases hx : x = 0
      · have hq : (x == 0) = true := beq_iff_eq.2 hx
        have HX := Lib.hid hx
        clear hx
        go_wp2
        go_roundw
        case rel => exact ⟨1, by omega, by go_num, fun _ => HX.out, by omega, by trivial⟩
        case measure => simp [intOf]
      · have hq : (x == 0) = false := beq_eq_false_iff_ne.2 hx
        have HR : Hid (R = x) := Lib.hid (by rw [← HRO.out, if_neg hx])
        clear hx
        go_wp2
        go_ret
        rw [HR.out]
        exact ⟨rfl, rfl⟩
    · have HX := Lib.hid (p0 (by omega))
      clear p0 p1
      by_cases hx : y = 0
      · have hq : (y == 0) = true := beq_iff_eq.2 hx
        have HY := Lib.hid hx
        clear hx
        go_wp2
        go_roundw
        case rel => exact ⟨2, by omega, by go_num, fun _ => HX.out, fun _ => HY.out, by trivial⟩
        case measure => simp [intOf]
      · have hq : (y == 0) = false := beq_eq_false_iff_ne.2 hx
        have HR : Hid (R = y) := Lib.hid (by rw [← HRO.out, if_pos HX.out])
        clear hx
        go_wp2
        go_ret
        rw [HR.out]
        exact ⟨rfl, rfl⟩
    · have HR : Hid (R = 0) := Lib.hid (by rw [← HRO.out, if_pos (p0 (by omega)), p1 (by omega)])
      clear p0 p1
      go_wp2
      go_ret
      rw [HR.out]
      exact ⟨rfl, rfl⟩
set_option maxHeartbeats 1000000 in
theorem order_any (x y : Gr) (w : World) :
    Calls Tryz.prog 145 #[grV x, grV y] w fun e w' => e = .returned (.int .i64 (cmpG x y)) ∧ Below w.heap.size w w' := by
  obtain ⟨x1, x2, x3⟩ := x
  obtain ⟨y1, y2, y3⟩ := y
  obtain ⟨R, hR⟩ : ∃ R, cmpG (x1, x2, x3) (y1, y2, y3) = R := ⟨_, rfl⟩
  have HRO : Hid (R = if cmpK x1 y1 = 0 then cmpK x2 y2 else cmpK x1 y1) := Lib.hid hR.symm
  rw [hR]
  clear hR
  dsimp only [grV]
  obtain ⟨C1, hC1⟩ : ∃ C, cmpK x1 y1 = C := ⟨_, rfl⟩
  obtain ⟨C2, hC2⟩ : ∃ C, cmpK x2 y2 = C := ⟨_, rfl⟩
  have HC1 := Lib.hid (compare_any x1 y1)
  have HC2 := Lib.hid (compare_any x2 y2)
  rw [hC1] at HC1 HRO
  rw [hC2] at HC2 HRO
  clear hC1 hC2
  obtain ⟨u1, hw1⟩ : ∃ u1, w.alloc (.cells #[.string x1, .string x2, .int .i64 x3] 111) = u1 := ⟨_, rfl⟩
  have k1 : Blk u1 w.heap.size 111 [.string x1, .string x2, .int .i64 x3] := hw1 ▸ Blk.new w _ _
  have hB1 : Below w.heap.size w u1 := hw1 ▸ (Below.refl _ w).alloc (Nat.le_refl _) _
  have hlt1 : w.heap.size < u1.heap.size := k1.lt
  obtain ⟨u2, hw2⟩ : ∃ u2, u1.alloc (.cells #[.string y1, .string y2, .int .i64 y3] 111) = u2 := ⟨_, rfl⟩
  have k2 : Blk u2 u1.heap.size 111 [.string y1, .string y2, .int .i64 y3] := hw2 ▸ Blk.new u1 _ _
  have hB2 : Below u1.heap.size u1 u2 := hw2 ▸ (Below.refl _ u1).alloc (Nat.le_refl _) _
  have hlt2 : u1.heap.size < u2.heap.size := k2.lt
  have hlt12 : w.heap.size < u2.heap.size := by omega
  have k12 := k1.below hB2 hlt1
  have a0 := k12.cell 0
  have a1 := k12.cell 1
  have b0 := k2.cell 0
  have b1 := k2.cell 1
  simp only [gZa, gZb] at a0 a1 b0 b1
  have HB1 := Lib.hid hB1
  have HB2 := Lib.hid hB2
  have HW1 := Lib.hid hw1
  have HW2 := Lib.hid hw2
  clear k1 k2 k12 hB1 hB2 hw1 hw2
  go_enter Tryz.func145, Tryz.ntmps145
  go_upto_region 1 with fail
  have hX : w.heap.size + 1 = u1.heap.size := by rw [← HW1.out, World.size_alloc]
  rw [HW1.out, HW2.out, hX]
  refine wp_region_noPanic ?_
  refine wp_region_last 10 (fun W' => W'.cell? ⟨w.heap.size, 0, none⟩ = some (.string x1) ∧ W'.cell? ⟨w.heap.size, 1, none⟩ = some (.string x2) ∧ W'.cell? ⟨u1.heap.size, 0, none⟩ = some (.string y1) ∧ W'.cell? ⟨u1.heap.size, 1, none⟩ = some (.string y2)) (by kernel_rfl) ⟨a0, a1, b0, b1⟩ (fun hHeld => ?_)
  refine tkA 16 (i := 0) (oi := ⟨some 5, _, _, _, _, _⟩) rfl hHeld ?_
  try simp only [Act.put, pZa, pZb, pZc]
  refine tkA 16 (i := 1) (oi := ⟨some 6, _, _, _, _, _⟩) rfl hHeld ?_
  try simp only [Act.put, pZa, pZb, pZc]
  refine tkA 16 (i := 2) (oi := ⟨some 7, _, _, _, _, _⟩) rfl hHeld ?_
  try simp only [Act.put, pZa, pZb, pZc]
  refine tkA 16 (i := 3) (oi := ⟨some 8, _, _, _, _, _⟩) rfl hHeld ?_
  try simp only [Act.put, pZa, pZb, pZc]
  refine tkA 16 (i := 5) (oi := ⟨some 10, _, _, _, _, _⟩) rfl hHeld ?_
  try simp only [Act.put, pZa, pZb, pZc]
  refine tkA 16 (i := 6) (oi := ⟨some 11, _, _, _, _, _⟩) rfl hHeld ?_
  try simp only [Act.put, pZa, pZb, pZc]
  refine tkA 16 (i := 7) (oi := ⟨some 12, _, _, _, _, _⟩) rfl hHeld ?_
  try simp only [Act.put, pZa, pZb, pZc]
  refine tkA 16 (i := 8) (oi := ⟨some 13, _, _, _, _, _⟩) rfl hHeld ?_
  try simp only [Act.put, pZa, pZb, pZc]
  clear hHeld
  refine wpAnyL_facts 16 2 3 [(4, 9), (9, 14)] (fun s v w => match s with
    | 9 => v = .int .i64 C1
    | 14 => v = .int .i64 C2
    | _ => True) (fun w w' => Below w.heap.size w w') (by kernel_rfl) (by kernel_rfl) bZh ⟨?_, ?_, trivial⟩ (fun w' hB => ⟨(hB.cell (p := ⟨w.heap.size, 0, none⟩) hlt12).trans a0, (hB.cell (p := ⟨w.heap.size, 1, none⟩) hlt12).trans a1, (hB.cell (p := ⟨u1.heap.size, 0, none⟩) hlt2).trans b0, (hB.cell (p := ⟨u1.heap.size, 1, none⟩) hlt2).trans b1⟩) ⟨?_, ?_, trivial⟩ ?_
  focus
    intro v w w' h hB
    exact h
  focus
    intro v w w' h hB
    exact h
  focus
    intro vs w2 hBf hFf o ho K hK
    obtain rfl : (⟨some 9, _, _, _, _, _⟩ : Oper) = o := Option.some.inj ho
    clear ho
    (try simp only [fillL, pZd, pZe, Act.put, pZa, pZb, pZc] at hK ⊢)
    go_simp
    refine (HC1.out w2).mono ?_
    rintro e w3 ⟨rfl, rfl⟩
    refine hK.out _ _ ⟨rfl, Below.refl _ _⟩
  focus
    intro vs w2 hBf hFf o ho K hK
    obtain rfl : (⟨some 14, _, _, _, _, _⟩ : Oper) = o := Option.some.inj ho
    clear ho
    (try simp only [fillL, pZd, pZe, Act.put, pZa, pZb, pZc] at hK ⊢)
    go_simp
    refine (HC2.out w2).mono ?_
    rintro e w3 ⟨rfl, rfl⟩
    refine hK.out _ _ ⟨rfl, Below.refl _ _⟩
  intro vs w2 hBf hFf
  (try simp only [fillL, pZd, pZe, Act.put, pZa, pZb, pZc])
  have e1 : vs 9 = .int .i64 C1 := (hFf (4, 9) (by simp))
  have e2 : vs 14 = .int .i64 C2 := (hFf (9, 14) (by simp))
  simp only [e1, e2]
  have hB02 : Below w.heap.size w u2 := HB1.out.trans (HB2.out.mono HB1.out.size)
  have hB2 : Below w.heap.size w w2 := hB02.trans ((((Below.refl _ u2).drew.trans hBf)).mono hB02.size)
  refine wpAnyL_last (i := 10) (o := ⟨some 15, _, _, _, _, _⟩) (by kernel_rfl) rfl (by kernel_rfl) (fun K hK => ?_)
  go_simp
  refine hK.out _ _ ?_
  clear hK K
  try simp only [Act.put, pZa, pZb, pZc]
  refine wpAnyL_last (i := 11) (o := ⟨some 16, _, _, _, _, _⟩) (by kernel_rfl) rfl (by kernel_rfl) (fun K hK => ?_)
  go_simp
  refine (cmpOr_any R C1 C2 HRO.out.symm w2.heap.size (w2.alloc (.cells #[.int .i64 C1, .int .i64 C2] 3)) (by simp) (by simp) (by simp)).mono ?_
  rintro e w3 ⟨rfl, rfl⟩
  go_wp2_with fail
  refine hK.out _ _ ?_
  clear hK K
  try simp only [Act.put, pZa, pZb, pZc]
  refine wpAnyL_last (i := 12) (o := ⟨some 4, _, _, _, _, _⟩) (by kernel_rfl) rfl (by kernel_rfl) (fun K hK => ?_)
  go_simp
  refine hK.out _ _ ?_
  clear hK K
  try simp only [Act.put, pZa, pZb, pZc]
  refine wpAnyL_done (by kernel_rfl) ?_ _
  refine NoPanic.normal ?_
  go_wp2
  go_ret
  exact ⟨rfl, hB2.alloc hB2.size _⟩
end Go.Proofs.YtimmcmjipmkebaaGreat

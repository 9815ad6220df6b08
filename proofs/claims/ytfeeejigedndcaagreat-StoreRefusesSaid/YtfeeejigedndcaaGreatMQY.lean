/-
  What is read off a device on which a store stands: number, claim, page. Conditions: no fault is met.
-/
import Derived.Test.YtfeeejigedndcaaGreatMQX
import Derived.Test.YtfeeejigedndcaaGreatMSM
import Derived.Test.YtfeeejigedndcaaGreatMGK
import Derived.Test.YtfeeejigedndcaaGreatMTS
import Derived.Test.YtfeeejigedndcaaGreatMDVG
import Derived.Test.YtfeeejigedndcaaGreatMQC
import Derived.Test.YtfeeejigedndcaaGreatMUM
namespace Go.Proofs.YtfeeejigedndcaaGreat
open Go.ChangeShapes Go.WideShapes Go.ChangeAt Go.RowKit Go.Maps
set_option maxRecDepth 100000

theorem numberS_ok (s : ByteArray) (n : Int) (hm : s.size ≤ 9223372036854775807) (hn : numR s = (n, 0)) (w : World) :
    Calls Tryz.prog 90 #[.string s] w fun e w' => e = .returned (.int .i64 n) ∧ Below w.heap.size w w' := by
  have h := number_any s hm w
  rw [hn] at h
  have H := Lib.hid h
  clear h hn
  go_enter Tryz.func90, Tryz.ntmps90
  go_wp2_with fail
  refine H.out.mono ?_
  rintro e w1 ⟨rfl, hB⟩
  try unfold ansN
  go_wp2
  go_ret
  exact ⟨rfl, hB⟩

set_option maxHeartbeats 1000000 in
theorem claim_ok (X : Nat) (T : TypeId) (us : List Value) (tot at_ : Int) (mb n : Nat) (D : Dz) (S : List Int) (hn : n ≤ 1048576) (h2 : 2 ≤ at_) (h3 : at_ < tot) (h4 : tot ≤ 8192) (hS : at_ ∉ S) (w : World) (hX : Blk w X T us) (hu0 : us[0]? = some (.int .i64 tot)) (hu1 : us[1]? = some (.map (some mb))) (hO : OwnS w mb n D) (hD : SetIs D S) :
    Calls Tryz.prog 108 #[.pointer (some ⟨X, 0, none⟩), .int .i64 at_] w fun e w' => e = .returned (.tuple #[]) ∧ (∃ D', OwnS w' mb (n + 1) D' ∧ SetIs D' (S ++ [at_])) ∧ Out mb (mb + 1) w.heap.size w w' := by
  have c0 : w.cell? ⟨X, 0, none⟩ = some (.int .i64 tot) := (hX.cell 0).trans hu0
  have c1 : w.cell? ⟨X, 1, none⟩ = some (.map (some mb)) := (hX.cell 1).trans hu1
  have hXl := hX.lt
  have hkey := key_int (z := at_) (by omega)
  have hz : ∀ W : World, (zeroValue 173).run Tryz.prog W = .ok (.agg #[]) W := fun _ => by kernel_rfl
  have hno : Maps.has D (.int .i64 at_) = false := by
    rw [← Bool.not_eq_true]
    exact fun h => hS ((hD.2 at_).1 h)
  have HO := Lib.hid hO
  have HD := Lib.hid hD
  have HX := Lib.hid hX
  clear hX hO hD hS
  go_enter Tryz.func108, Tryz.ntmps108
  go_wp2_with (first
    | (at_lookup; refine wpList_lookup_own_unit _ rfl _ _ 136 rfl 3 173 keyed Tryz.underlying136 (hz _) mb n D rfl HO.out _ _ rfl hkey ?_; rw [hno])
    | (at_mapUpdate; refine wpList_mapUpdate_own _ rfl _ _ _ 136 rfl 3 173 keyed Tryz.underlying136 (unitElem (H := Unit)) mb n D rfl (HO.out.alloc _) (by unfold maxLen; omega) _ _ _ rfl rfl hkey (.agg []) [] unitElem_mk ?_; intro w1 hown1 hgrow1))
  go_end0
  refine ⟨rfl, ⟨_, hown1, HD.out.put at_ _⟩, ⟨hgrow1.os, hgrow1.tape, hgrow1.output, ?_, fun k hk hne => ?_⟩⟩
  · have := hgrow1.size
    simp at this
    omega
  · refine (hgrow1.block k (by simp; omega) (fun e => by injection e with e; omega)).trans (Below.heap_alloc _ _ k hk)

end Go.Proofs.YtfeeejigedndcaaGreat

namespace Go.Proofs.YtfeeejigedndcaaGreat
open Go.ChangeShapes Go.WideShapes Go.ChangeAt Go.RowKit Go.Maps
set_option maxRecDepth 100000

abbrev RT : TypeId := 158
/-- A reader in block X, and what it has met. -/
structure RdAt (m X mb : Nat) (D : Dv) (S : List Int) (W : World) : Prop where
  blk : Blk W X RT [.int .i64 D.ps.length, .map (some mb), .slice D.A D.ps.length D.c]
  map : ∃ E, OwnS W mb S.length E ∧ SetIs E S
  secs : RdU m W D.A (ptCells D.ps)
  sec : ∀ p ∈ D.ps, RdU m W p.A (ocl p.zs)
  mX : m ≤ X
  mmb : m ≤ mb
theorem owns_block {w w' : World} {b n : Nat} {D : Dz} (h : OwnS w b n D) (e : w'.heap[b]? = w.heap[b]?) : OwnS w' b n D := by
  obtain ⟨es, clock, hb, r⟩ := h
  exact ⟨es, clock, e.trans hb, r⟩
theorem RdAt.ne {m X mb : Nat} {D : Dv} {S : List Int} {W : World} (h : RdAt m X mb D S W) : X ≠ mb := by
  rintro rfl
  obtain ⟨E, ⟨es, clock, hb, r⟩, _⟩ := h.map
  have := h.blk
  unfold Blk at this
  rw [hb] at this
  cases this
theorem RdAt.mlt {m X mb : Nat} {D : Dv} {S : List Int} {W : World} (h : RdAt m X mb D S W) : mb < W.heap.size := by
  obtain ⟨E, ⟨es, clock, hb, r⟩, _⟩ := h.map
  exact (Array.getElem?_eq_some_iff.1 hb).1
theorem RdAt.keep {m X mb : Nat} {D : Dv} {S : List Int} {W W' : World} (h : RdAt m X mb D S W) (hX : W'.heap[X]? = W.heap[X]?) (hm : W'.heap[mb]? = W.heap[mb]?) (hlo : KeepsLo m W W') : RdAt m X mb D S W' := by
  obtain ⟨E, h1, h2⟩ := h.map
  exact ⟨hX.trans h.blk, ⟨E, owns_block h1 hm, h2⟩, h.secs.keeps hlo, fun p hp => (h.sec p hp).keeps hlo, h.mX, h.mmb⟩
theorem RdAt.below {m X mb : Nat} {D : Dv} {S : List Int} {W W' : World} (h : RdAt m X mb D S W) (hB : Below W.heap.size W W') : RdAt m X mb D S W' :=
  h.keep (hB.block _ h.blk.lt) (hB.block _ h.mlt) (KeepsLo.below hB)
theorem RdU.toRd {m : Nat} {w : World} {A : Option Addr} {vs : List Value} (h : RdU m w A vs) (hm : m ≤ w.heap.size) : Rd w A vs := fun hv => by
  obtain ⟨b, off, e, hb, hc⟩ := h hv
  exact ⟨b, off, e, by omega, hc⟩

set_option maxHeartbeats 1000000 in
theorem page_ok (m X mb : Nat) (D : Dv) (S : List Int) (k : Nat) (p : Pt) (hp : D.ps[k]? = some p) (h2 : 2 ≤ k) (h8 : D.ps.length ≤ 8192) (hS : (k : Int) ∉ S) (hn : S.length ≤ 8192) (hc : p.zs.length ≤ p.c) (hz : p.zs.length = 64) (ho : Octs p.zs) (b : List Int) (nx : Int) (hpg : pgAns p.zs = (b, nx, 0))
    (w : World) (h : RdAt m X mb D S w) :
    Calls Tryz.prog 86 #[.pointer (some ⟨X, 0, none⟩), .int .i64 k] w fun e w' => ∃ A c, e = .returned (.tuple #[.slice A b.length c, .int .i64 nx]) ∧ w'.ownsRow w.heap.size 5 1 (.slice A b.length c) b.length (octCells b) ∧ RdAt m X mb D (S ++ [(k : Int)]) w' ∧ Out mb (mb + 1) w.heap.size w w' := by
  have hkl : k < D.ps.length := (List.getElem?_eq_some_iff.1 hp).1
  have hpm := List.mem_of_getElem? hp
  obtain ⟨E, hE1, hE2⟩ := h.map
  have HC := Lib.hid (claim_ok X RT [.int .i64 D.ps.length, .map (some mb), .slice D.A D.ps.length D.c] D.ps.length k mb S.length E S (by omega) (by omega) (by omega) (by omega) hS w h.blk rfl rfl hE1 hE2)
  have hX := h.blk.lt
  have hml := h.mlt
  have hne := h.ne
  have hmX := h.mX
  have hmm := h.mmb
  have hk8 : (k : Int) < D.ps.length := by omega
  have H := Lib.hid h
  have HP := Lib.hid hp
  clear h hE1 hE2 hS hp
  go_enter Tryz.func86, Tryz.ntmps86
  go_wp2_with fail
  refine HC.out.mono ?_
  rintro e w1 ⟨rfl, ⟨E', h1, h2'⟩, hO⟩
  have hR1 : RdAt m X mb D (S ++ [(k : Int)]) w1 := by
    have hlo : KeepsLo m w w1 := fun b' hb' o v hv => by
      have hbl := World.block_lt_of_cell? w ⟨b', o, none⟩ hv
      have e9 := hO.block b' hbl (.inl (by omega))
      rw [← hv]
      unfold World.cell?
      simp only [e9]
    exact ⟨(hO.block X hX (by omega)).trans H.out.blk, ⟨E', by rw [List.length_append]; exact h1, h2'⟩, H.out.secs.keeps hlo, fun q hq => (H.out.sec q hq).keeps hlo, H.out.mX, H.out.mmb⟩
  have hs1 := hO.size
  have x2 : w1.cell? ⟨X, 2, none⟩ = some (.slice D.A D.ps.length D.c) := hR1.blk.cell 2
  obtain ⟨gb, go, hA, hgb, hgc⟩ := (hR1.secs.toRd (by have := hR1.blk.lt; omega)).pt HP.out
  have HPD := Lib.hid (pageDecode_any ⟨p.A, p.zs, p.c⟩ w1 ⟨hc, by show p.zs.length ≤ maxLen; unfold maxLen; omega, ho, (hR1.sec p hpm).toRd (by have := hR1.blk.lt; omega)⟩)
  dsimp only at HPD
  rw [hpg] at HPD
  have HR1 := Lib.hid hR1
  have HO := Lib.hid hO
  obtain ⟨dA, ps, dc, dB, ws, dd⟩ := D
  dsimp only at hA hk8 hkl x2
  subst hA
  obtain ⟨pA, pz, pc⟩ := p
  dsimp only [Pt.val, Slc.val] at hgc HPD
  clear hR1 hO HC hpm hz hpg ho
  go_wp2_with fail
  refine HPD.out.mono ?_
  rintro e w2 ⟨v, rfl, hown, hB2⟩
  obtain ⟨A2, c2, rfl, _, _, _, _⟩ := own_any hown
  have HO2 := Lib.hid hown
  clear hown HPD
  go_wp2_with fail
  refine (must_ok w2).mono ?_
  rintro e w2' ⟨rfl, rfl⟩
  go_wp2
  go_ret2
  exact ⟨A2, c2, rfl, own_base HO2.out hs1, HR1.out.below hB2, HO.out.trans ((Out.of_below hB2).mono (Nat.le_refl _) (Nat.le_refl _) hs1)⟩

end Go.Proofs.YtfeeejigedndcaaGreat

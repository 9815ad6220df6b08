/-
  PagesSpoilt's walk. Conditions: the slice is one that may be; the octet is one.
-/
import Derived.Test.YthelklgpabjfkaaPI
import Derived.Test.YthelklgpabjfkaaPL
namespace Go.Proofs.Ythelklgpabjfkaa
open Go.ChangeShapes Go.WideShapes Go.ChangeAt Go.RowKit

set_option maxHeartbeats 2000000 in
set_option maxRecDepth 100000 in
theorem spoilt_walk (s : Slc) (next at_ by_ : Int) (hby : 0 ≤ by_ ∧ by_ ≤ 255) (w : World) (hs : s.ok w) :
    Calls Try.prog 5 #[s.val, .int .i64 next, .int .i64 at_, .int .u8 by_] w fun e w' => e = .returned (.bool true) ∧ Below w.heap.size w w' := by
  obtain ⟨q, hq, hqe⟩ := place at_ 64 (by omega) (by omega)
  have hqe' : (wrap64 (at_.tmod 64 + 64)).tmod 64 = (q : Int) := hqe
  clear hqe
  have HS := Lib.hid hs
  have hso := hs.2.2.1
  clear hs
  by_cases hE : pgE s.zs.length next = 0
  · have HE := Lib.hid (fun w h => pageEncode_ok s next hE w h)
    have hpo := pgO_octs next hso
    have hpl := pgO_length next (pgE_ok.1 hE).1
    obtain ⟨zo, hzo⟩ : ∃ zo, pgO s.zs next = zo := ⟨_, rfl⟩
    have hspo := fun (zs : List Int) (hz : Octs zs) hsame hne => pg_spoilt (b := s.zs) (next := next) hE hso (zs := zs) hz q hq hsame hne
    rw [hzo] at HE hpo hpl hspo
    clear hzo
    have hz := oct_bd hpo q
    have hx := xor8 (oct zo q) by_ ⟨hz.1, by omega⟩ hby
    have hcell := octcell (zs := zo) (k := q) (by rw [hpl]; exact hq)
    have hsp := hspo (zo.set q (bits BinOp.xor IntKind.u8 (oct zo q) by_))
    have hsl : (zo.set q (bits BinOp.xor IntKind.u8 (oct zo q) by_)).length = 64 := by rw [List.length_set, hpl]
    have hset : ∀ z, (octCells zo).set q (.int .u8 z) = octCells (zo.set q z) := fun z => by unfold octCells; rw [List.map_set]
    have hget : zo[q]? = some (oct zo q) := oct_is (by rw [hpl]; exact hq)
    obtain ⟨A0, zs0, c0⟩ := s
    unfold Slc.val at HE ⊢
    dsimp only at HE ⊢
    by_cases hb0 : by_ = 0
    · subst hb0
      clear hx hsp hsl hset hget hcell hspo
      go_enter Try.func5, Try.ntmps5
      go_wp2_with fail
      refine (alive_any w).mono ?_
      rintro e wa ⟨rfl, hBa⟩
      have hsa := HS.out.below hBa
      go_wp2_with (first
        | (go_at_call 7; refine (HE.out wa hsa).mono ?_; rintro e w1 ⟨v, rfl, hown, hB1⟩)
        | (go_at_call 13; refine (num_any _ _).mono ?_; rintro e w' ⟨rfl, rfl⟩))
      go_ret
      exact ⟨rfl, hBa.trans (hB1.mono hBa.size)⟩
    · obtain ⟨h1, h2, h3⟩ := hx hb0
      have hoc := octs_set hpo q _ ⟨h1, h2⟩
      have hsp' := hsp hoc (fun j hj => by rw [List.getElem?_set_ne (Ne.symm hj)]) (by rw [List.getElem?_set_self (by rw [hpl]; exact hq), hget]; intro e; injection e with e; exact h3 e)
      have hoE := hset (bits BinOp.xor IntKind.u8 (oct zo q) by_)
      have HSP := Lib.hid hsp'
      have HOC := Lib.hid hoc
      have HSL := Lib.hid hsl
      have HOE := Lib.hid hoE
      have HCE := Lib.hid hcell
      have hbb : (by_ == 0) = false := beq_eq_false_iff_ne.2 hb0
      clear hsp hsl hset hget hx hsp' hoc h3 h1 h2 hz hoE hcell hspo hso hE
      generalize oct zo q = z at *
      obtain ⟨z', hz'⟩ : ∃ z', bits BinOp.xor IntKind.u8 z by_ = z' := ⟨_, rfl⟩
      rw [hz'] at HSP HOC HSL HOE
      generalize zo.set q z' = zs' at *
      generalize octCells zo = oc at *
      clear hpo hpl
      go_enter Try.func5, Try.ntmps5
      go_wp2_with fail
      refine (alive_any w).mono ?_
      rintro e wa ⟨rfl, hBa⟩
      have hsa := HS.out.below hBa
      go_wp2_with fail
      refine (HE.out wa hsa).mono ?_
      rintro e w1 ⟨v, rfl, hown, hB1⟩
      obtain ⟨g, c, rfl, hg, hlt⟩ := hown.form (by omega)
      have hB01 : Below w.heap.size w w1 := hBa.trans (hB1.mono hBa.size)
      have hgw : w.heap.size ≤ g := Nat.le_trans hBa.size hg
      have hce := hown.cellAt q (by omega)
      rw [HCE.out] at hce
      have hfr := hown.frozenAt q
      obtain ⟨hown2, _⟩ := hown.stored q (.int .u8 z')
      rw [HOE.out] at hown2
      have hB02 : Below w.heap.size w (w1.setCell ⟨g, q, none⟩ (.int .u8 z')) := hB01.setCell (p := ⟨g, q, none⟩) hgw _
      have hcc : 64 ≤ c := by
        obtain ⟨A, c', e, hc', _⟩ := own_slice hown
        injection e with _ _ e
        omega
      have hok2 : (Slc.mk (some ⟨g, 0, none⟩) zs' c).ok (w1.setCell ⟨g, q, none⟩ (.int .u8 z')) := ⟨by show zs'.length ≤ c; rw [HSL.out]; exact hcc, by show zs'.length ≤ maxLen; rw [HSL.out]; unfold maxLen; omega, HOC.out, Rd.of_own hown2⟩
      have hdec := pageDecode_any ⟨some ⟨g, 0, none⟩, zs', c⟩ (w1.setCell ⟨g, q, none⟩ (.int .u8 z')) hok2
      unfold Slc.val at hdec
      dsimp only at hdec
      rw [pgAns_no HSP.out, HSL.out] at hdec
      dsimp only at hdec
      have HDE := Lib.hid hdec
      have HOK2 := Lib.hid hok2
      have hqi : ((q : Int) < 64) := by omega
      clear hdec hown hown2 hok2 HE HOC HOE HCE
      generalize hw2 : w1.setCell ⟨g, q, none⟩ (.int .u8 z') = w2 at *
      go_wp2_with (go_at_call 13; refine (num_any _ _).mono ?_; rintro e w' ⟨rfl, rfl⟩)
      refine HDE.out.mono ?_
      rintro e w3 ⟨v3, rfl, _, hB3⟩
      have hB03 : Below w.heap.size w w3 := hB02.trans (hB3.mono hB02.size)
      have hok3 := HOK2.out.below hB3
      clear HDE hB3 HOK2
      go_wp2_with fail
      have hBA : Below w3.heap.size w3 (w3.alloc (.cells #[.slice (some ⟨g, 0, none⟩) 64 c] 22)) := (Below.refl _ _).alloc (Nat.le_refl _) _
      have hB4 : Below w.heap.size w (w3.alloc (.cells #[.slice (some ⟨g, 0, none⟩) 64 c] 22)) := hB03.alloc hB03.size _
      have hbk := Blk.new w3 [.slice (some ⟨g, 0, none⟩) 64 c] 22
      have hgl := glue_any (some ⟨w3.heap.size, 0, none⟩) 1 [Slc.mk (some ⟨g, 0, none⟩) zs' c] (by simp) (w3.alloc (.cells #[.slice (some ⟨g, 0, none⟩) 64 c] 22)) (fun _ => ⟨_, 0, rfl, hbk.lt, fun j u hu => by
        rw [Nat.zero_add]
        refine (hbk.cell j).trans ?_
        simp only [List.map_cons, List.map_nil, Slc.val, HSL.out] at hu
        exact hu⟩) (fun t ht => by
        simp only [List.mem_cons, List.not_mem_nil, or_false] at ht
        subst ht
        exact hok3.below hBA)
      have hga : glueAns ([Slc.mk (some ⟨g, 0, none⟩) zs' c].map Slc.zs) = ([], 21) := by
        unfold glueAns
        rw [if_neg (by simp [pgFree, HSP.out])]
      rw [hga] at hgl
      dsimp only [List.length_cons, List.length_nil] at hgl
      clear hga hbk
      refine hgl.mono ?_
      rintro e w5 ⟨v5, rfl, _, hB5⟩
      have hB05 : Below w.heap.size w w5 := hB4.trans (hB5.mono hB4.size)
      clear hgl
      go_wp2_with (refine (num_any _ _).mono ?_; rintro e w' ⟨rfl, rfl⟩)
      go_ret
      exact ⟨rfl, hB05⟩
  · have HE := Lib.hid (fun w h => pageEncode_no s next hE w h)
    generalize pgE s.zs.length next = ee at *
    have hee : (ee == 0) = false := beq_eq_false_iff_ne.2 hE
    have hee' : (ee != 0) = true := by simpa using hE
    obtain ⟨A0, zs0, c0⟩ := s
    unfold Slc.val at HE ⊢
    dsimp only at HE ⊢
    go_enter Try.func5, Try.ntmps5
    go_wp2_with fail
    refine (alive_any w).mono ?_
    rintro e wa ⟨rfl, hBa⟩
    have hsa := HS.out.below hBa
    go_wp2_with (first
      | (go_at_call 7; refine (HE.out wa hsa).mono ?_; rintro e w1 ⟨rfl, rfl⟩)
      | (go_at_call 13; refine (num_any _ _).mono ?_; rintro e w' ⟨rfl, rfl⟩))
    go_ret
    exact ⟨rfl, hBa⟩

end Go.Proofs.Ythelklgpabjfkaa

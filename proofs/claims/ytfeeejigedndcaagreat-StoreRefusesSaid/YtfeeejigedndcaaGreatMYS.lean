/-
  What stands on a device behind a commit: plainly. No conditions.
-/
import Derived.Test.YtfeeejigedndcaaGreatMYH
import Derived.Test.YtfeeejigedndcaaGreatMQS
import Derived.Test.YtfeeejigedndcaaGreatMYK
import Derived.Test.YtfeeejigedndcaaGreatMDVG
namespace Go.Proofs.YtfeeejigedndcaaGreat
open Go.ChangeShapes Go.WideShapes Go.ChangeAt Go.RowKit
set_option maxRecDepth 100000

theorem ubNew_newer {u v : Ub} (hv : v.ok = true) (hlt : v.t < u.t) : ubNew (u, 0) (v, 0) = (u, 0, 0) ∧ ubNew (v, 0) (u, 0) = (u, 1, 0) := by
  have h1 := (Ub.ok_iff.1 hv).1
  have h0 : ub0.t = 0 := rfl
  have a1 : ∀ x : Ub, 1 ≤ x.t → ubUpd (ub0, 0) (x, 0) 0 = (x, 0) := fun x hx => by
    unfold ubUpd
    rw [if_pos ⟨rfl, by show ub0.t < x.t; rw [h0]; omega⟩]
  refine ⟨?_, ?_⟩
  · have e : ubSt (u, 0) (v, 0) 2 = (u, 0) := by
      simp only [ubSt]
      rw [a1 u (by omega)]
      unfold ubUpd
      rw [if_neg fun h => by have h2 : u.t < v.t := h.2; omega]
    unfold ubNew
    rw [e, if_neg (by show ¬ u.t = 0; omega)]
  · have e : ubSt (v, 0) (u, 0) 2 = (u, 1) := by
      simp only [ubSt]
      rw [a1 v h1]
      unfold ubUpd
      rw [if_pos ⟨rfl, hlt⟩]
    unfold ubNew
    rw [e, if_neg (by show ¬ u.t = 0; omega)]

/-- Pairs of a list. -/
theorem pw_forall {α : Type} {R : α → α → Prop} (hs : ∀ a b, R a b → R b a) (hr : ∀ a, R a a) : ∀ {l : List α}, l.Pairwise R → ∀ a ∈ l, ∀ b ∈ l, R a b
  | [], _, a, ha, _, _ => by cases ha
  | x :: l, h, a, ha, b, hb => by
    obtain ⟨h1, h2⟩ := List.pairwise_cons.1 h
    rcases List.mem_cons.1 ha with rfl | ha1
    · rcases List.mem_cons.1 hb with rfl | hb1
      · exact hr _
      · exact h1 b hb1
    · rcases List.mem_cons.1 hb with rfl | hb1
      · exact hs _ _ (h1 a ha1)
      · exact pw_forall hs hr h2 a ha1 b hb1

theorem applyW_cons (S : List (List Int)) (x : Int × List Int) (l : List (Int × List Int)) : applyW S (x :: l) = applyW (S.set x.1.toNat x.2) l := rfl
theorem applyW_other : ∀ (l : List (Int × List Int)) (S : List (List Int)) (k : Nat), (∀ x ∈ l, x.1.toNat ≠ k) → (applyW S l)[k]? = S[k]?
  | [], _, _, _ => rfl
  | x :: l, S, k, h => by
    rw [applyW_cons, applyW_other l _ k (fun y hy => h y (by simp [hy])), List.getElem?_set_ne (h x (by simp))]
theorem applyW_mem : ∀ (l : List (Int × List Int)) (S : List (List Int)), (l.map fun x => x.1.toNat).Nodup → ∀ x ∈ l, x.1.toNat < S.length → (applyW S l)[x.1.toNat]? = some x.2
  | [], _, _, x, hx, _ => by cases hx
  | y :: l, S, h, x, hx, hl => by
    rw [applyW_cons]
    rw [List.map_cons] at h
    obtain ⟨h1, h2⟩ := List.nodup_cons.1 h
    rcases List.mem_cons.1 hx with rfl | hx
    · rw [applyW_other l _ x.1.toNat (fun z hz e => h1 (List.mem_map.2 ⟨z, hz, e⟩)), List.getElem?_set_self (by simpa using hl)]
    · exact applyW_mem l _ h2 x hx (by simpa using hl)
theorem applyW_64 : ∀ (l : List (Int × List Int)) (S : List (List Int)), (∀ z ∈ S, z.length = 64) → (∀ x ∈ l, x.2.length = 64) → ∀ z ∈ applyW S l, z.length = 64
  | [], _, h, _, z, hz => h z hz
  | y :: l, S, h, hl, z, hz => by
    refine applyW_64 l _ (fun z hz => ?_) (fun x hx => hl x (by simp [hx])) z (applyW_cons S y l ▸ hz)
    rcases List.mem_or_eq_of_mem_set hz with hz | rfl
    · exact h z hz
    · exact hl y (by simp)

/-- Acts that write, as writes. -/
def prs (l : List AcT) : List (Int × List Int) := l.map fun a => (a.2.1, a.2.2)
theorem doL_append (S : DS) (l m : List AcT) : doL S (l ++ m) = doL (doL S l) m := by simp [doL]
theorem doL_writes (l : List AcT) : ∀ S : DS, (∀ a ∈ l, a.1 = false) → doL S l = ⟨S.secs, S.waits ++ prs l⟩ := by
  induction l with
  | nil => intro S _; simp [doL, prs]
  | cons a l ih =>
    intro S h
    have ha := h a (by simp)
    have e : doL S (a :: l) = doL (doA S a) l := rfl
    rw [e, ih _ (fun b hb => h b (by simp [hb]))]
    simp [doA, ha, prs]
theorem doL_flush (S : DS) : doL S [((true, 0, []) : AcT)] = ⟨applyW S.secs S.waits, []⟩ := rfl

/-- The last acts. -/
theorem doL_last (secs : List (List Int)) (l : List AcT) (u : Ub) (h : ∀ a ∈ l, a.1 = false) : doL ⟨secs, []⟩ (l ++ lastActs u) = ⟨(applyW secs (prs l)).set (u.t % 2).toNat u.octs, []⟩ := by
  rw [doL_append, doL_writes l _ h]
  simp only [lastActs, doL, List.foldl_cons, List.foldl_nil, doA]
  simp [applyW]

theorem wrs_at {zs ats nxs : List Int} (h : ats.length = cntN zs.length) : (wrs zs ats nxs).map (·.2.1) = ats := by
  unfold wrs
  rw [List.map_map, ← h]
  exact range_getD ats

/-- Pages that were written stand. -/
theorem pages_written {secs : List (List Int)} {zs ats nxs : List Int} (hl : ats.length = cntN zs.length) (hw : ∀ a ∈ wrs zs ats nxs, secs[a.2.1.toNat]? = some a.2.2) (h2 : ∀ z ∈ ats, 2 ≤ z) (hn : ∀ j, 0 ≤ nxs.getD j 0 ∧ nxs.getD j 0 < 8192) (ho : Octs zs) :
    Pages secs ats zs (fun j => nxs.getD j 0) := by
  refine ⟨hl, fun j hj => ?_⟩
  have hm : ats[j] ∈ ats := List.getElem_mem hj
  have h3 := h2 _ hm
  refine ⟨ats[j].toNat, by rw [List.getElem?_eq_getElem hj]; exact congrArg some (by omega), by omega, pgO (piece zs j) (nxs.getD j 0), ?_, pgO_length _ (piece_le _ _), pgO_octs _ (piece_octs ho _), ?_⟩
  · have := hw (wact zs ats nxs j) (List.mem_map.2 ⟨j, List.mem_range.2 (by omega), rfl⟩)
    have e : (wact zs ats nxs j).2.1 = ats[j] := by
      show ats.getD j 0 = _
      rw [List.getD_eq_getElem?_getD, List.getElem?_eq_getElem hj]
      rfl
    rw [e] at this
    exact this
  · obtain ⟨g1, g2, g3⟩ := pg_back (b := piece zs j) (next := nxs.getD j 0) (pgE_ok.2 ⟨piece_le _ _, (hn j).1, (hn j).2⟩)
    rw [pgAns_ok g1, g2, g3]

theorem Pages.keep {secs secs' : List (List Int)} {ats zs : List Int} {nx : Nat → Int} (h : Pages secs ats zs nx) (hk : ∀ k : Nat, (k : Int) ∈ ats → secs'[k]? = secs[k]?) : Pages secs' ats zs nx := by
  refine ⟨h.1, fun j hj => ?_⟩
  obtain ⟨k, h1, h2, z, h3, h4⟩ := h.2 j hj
  exact ⟨k, h1, h2, z, (hk k (List.mem_of_getElem? h1)).trans h3, h4⟩
/-- What stands, stands on whatever agrees with it where it is. -/
theorem Stands.keep {secs secs' : List (List Int)} {u : Ub} {os : List PO} {ix : List Int} (h : Stands secs u os ix) (hl : secs'.length = secs.length) (h64 : ∀ z ∈ secs', z.length = 64) (h01 : ∀ k, k < 2 → secs'[k]? = secs[k]?)
    (hk : ∀ k : Nat, (k : Int) ∈ os.flatMap (·.at_) ++ ix → secs'[k]? = secs[k]?) : Stands secs' u os ix := by
  obtain ⟨k, a, b, h1, h2, h3⟩ := h.hu
  have hok := h.hok
  refine ⟨⟨k, a, b, (h01 0 (by omega)).trans h1, (h01 1 (by omega)).trans h2, h3⟩, h.hf, h.hwr, h.hix.keep fun k hm => hk k (List.mem_append.2 (.inr hm)), fun o ho => (h.hos o ho).keep fun k hm => hk k (List.mem_append.2 (.inl (List.mem_flatMap.2 ⟨o, ho, hm⟩))), h.hnd, ⟨?_, rfl, hok.u, hok.n, hok.os, hok.at_, ?_⟩, h.hoc⟩
  · obtain ⟨g1, g2, g3, g4⟩ := hok.dev
    exact ⟨by show 2 ≤ secs'.length; rw [hl]; exact g1, by show secs'.length ≤ _; rw [hl]; exact g2, h64, fun x hx => (by cases hx)⟩
  · have := hok.secs
    show chk secs'.length _ = 0
    rw [hl]
    exact this

/-- A store that stands where it says, as it was committed. -/
structure StandsP (s : PS) : Prop where
  st : Stands s.dev.secs s.u s.os s.ix
  w : s.dev.waits = []
  slot : s.dev.secs[(s.u.t % 2).toNat]? = some s.u.octs
theorem StandsP.ok {s : PS} (h : StandsP s) : s.ok := by
  have h1 := h.st.hok
  have h2 := h.w
  obtain ⟨⟨secs, waits⟩, u, os, ix⟩ := s
  dsimp only at h2
  subst h2
  exact h1

theorem Placing.inv {old : List PO} {fr0 : List Int} {xs ys : List PO} {fr : List Int} {aw : List AcT} (h : Placing old fr0 xs ys fr aw) :
    ∃ k, fr = fr0.drop k ∧ k ≤ fr0.length ∧ aw.map (·.2.1) = fr0.take k ∧ ∀ y ∈ ys, y ∈ old ∨ ((∀ z ∈ y.at_, z ∈ fr0.take k) ∧ y.at_.length = cntN y.data.length ∧ ∀ a ∈ wrs y.data y.at_ (List.replicate (cntN y.data.length) 0), a ∈ aw) := by
  induction h with
  | nil => exact ⟨0, rfl, Nat.zero_le _, by simp, fun y hy => (by cases hy)⟩
  | same x o h1 h2 h3 h4 ih =>
    obtain ⟨k, e1, e2, e3, e4⟩ := ih
    refine ⟨k, e1, e2, e3, fun y hy => ?_⟩
    rcases List.mem_append.1 hy with hy | hy
    · exact e4 y hy
    · simp at hy
      subst hy
      rw [← h3, ← h4]
      exact .inl h2
  | new x h1 h2 h3 ih =>
    obtain ⟨k, e1, e2, e3, e4⟩ := ih
    rename_i fr' aw'
    have hl : (fr'.take (cntN x.data.length)).length = cntN x.data.length := by rw [List.length_take]; omega
    have hk : fr'.length = fr0.length - k := by rw [e1, List.length_drop]
    refine ⟨k + cntN x.data.length, by rw [e1, List.drop_drop], by omega, ?_, fun y hy => ?_⟩
    · rw [List.map_append, e3, wrs_at hl, List.take_add, e1]
    · rcases List.mem_append.1 hy with hy | hy
      · rcases e4 y hy with g | ⟨g1, g2, g3⟩
        · exact .inl g
        · exact .inr ⟨fun z hz => by rw [List.take_add]; exact List.mem_append.2 (.inl (g1 z hz)), g2, fun a ha => List.mem_append.2 (.inl (g3 a ha))⟩
      · simp at hy
        subst hy
        refine .inr ⟨fun z hz => ?_, hl, fun a ha => List.mem_append.2 (.inr ha)⟩
        rw [List.take_add]
        refine List.mem_append.2 (.inr ?_)
        rw [← e1]
        exact hz

/-- No sector is met twice. -/
theorem Placing.nodup {old : List PO} {fr0 : List Int} {xs ys : List PO} {fr : List Int} {aw : List AcT} (h : Placing old fr0 xs ys fr aw) (hk : xs.Pairwise fun a b => a.key ≠ b.key)
    (hold : ∀ o ∈ old, o.at_.length = cntN o.data.length) (hn : (old.flatMap (·.at_)).Nodup) (hf : fr0.Nodup) (hd : ∀ z ∈ fr0, z ∉ old.flatMap (·.at_)) : (ys.flatMap (·.at_)).Nodup := by
  have hp := List.pairwise_flatMap.1 hn
  have hpw : ∀ a ∈ old, ∀ b ∈ old, a.key ≠ b.key → ∀ x ∈ a.at_, ∀ y ∈ b.at_, x ≠ y := by
    refine pw_forall (R := fun a b : PO => a.key ≠ b.key → ∀ x ∈ a.at_, ∀ y ∈ b.at_, x ≠ y) (fun a b h hk x hx y hy => (h hk.symm y hy x hx).symm) (fun a h => absurd rfl h) (hp.2.imp (fun {a b} h (_ : a.key ≠ b.key) => h))
  induction h with
  | nil => exact List.nodup_nil
  | same x o h1 h2 h3 h4 ih =>
    rename_i xs' ys' fr' aw'
    obtain ⟨hk1, _, hk2⟩ := List.pairwise_append.1 hk
    obtain ⟨k, e1, e2, e3, e4⟩ := h1.inv
    have hkeys := (h1.facts hold).1
    rw [List.flatMap_append, List.flatMap_singleton]
    refine List.nodup_append.2 ⟨ih hk1, hp.1 o h2, fun z hz z' hz' => ?_⟩
    obtain ⟨y, hy, hzy⟩ := List.mem_flatMap.1 hz
    rcases e4 y hy with g | ⟨g1, _, _⟩
    · refine hpw y g o h2 (fun e => ?_) z hzy z' hz'
      have : y.key ∈ xs'.map (·.key) := hkeys ▸ List.mem_map.2 ⟨y, hy, rfl⟩
      obtain ⟨x', hx', e'⟩ := List.mem_map.1 this
      exact hk2 x' hx' x (by simp) (by rw [e', e, h3])
    · rintro rfl
      exact hd z (List.mem_of_mem_take (g1 z hzy)) (List.mem_flatMap.2 ⟨o, h2, hz'⟩)
  | new x h1 h2 h3 ih =>
    rename_i xs' ys' fr' aw'
    obtain ⟨hk1, _, hk2⟩ := List.pairwise_append.1 hk
    obtain ⟨k, e1, e2, e3, e4⟩ := h1.inv
    rw [List.flatMap_append, List.flatMap_singleton]
    have hfr : fr'.Nodup := e1 ▸ hf.sublist (List.drop_sublist _ _)
    refine List.nodup_append.2 ⟨ih hk1, hfr.sublist (List.take_sublist _ _), fun z hz z' hz' => ?_⟩
    obtain ⟨y, hy, hzy⟩ := List.mem_flatMap.1 hz
    have hz0 : z' ∈ fr0.drop k := e1 ▸ List.mem_of_mem_take hz'
    rcases e4 y hy with g | ⟨g1, _, _⟩
    · rintro rfl
      exact hd z (List.mem_of_mem_drop hz0) (List.mem_flatMap.2 ⟨y, g, hzy⟩)
    · rintro rfl
      have := List.nodup_append.1 (List.take_append_drop k fr0 ▸ hf)
      exact this.2.2 z (g1 z hzy) z hz0 rfl

theorem objE_congr {xs ys : List PO} (h1 : ys.map (·.key) = xs.map (·.key)) (h2 : ys.map (·.data) = xs.map (·.data)) : objE ys = objE xs := by
  have hl : ys.length = xs.length := by have := congrArg List.length h1; simpa using this
  have ha : ∀ l : List PO, (l.all fun o => decide (o.data.length ≤ 65536)) = (l.map (·.data)).all fun d => decide (d.length ≤ 65536) := fun l => by rw [List.all_map]; rfl
  unfold objE
  rw [hl, h1, ha, ha, h2]

theorem wrE_idx {os : List PO} (h : objE os = 0) (hat : ∀ o ∈ os, o.at_.length = cntN o.data.length) : wrE (idxT os) = 0 := by
  obtain ⟨h1, _, h3⟩ := objE_ok h
  have hk := (objE_keys h).1
  refine wrE_ok.2 ⟨by rw [idxT_length]; omega, List.all_eq_true.2 fun s hs => ?_⟩
  obtain ⟨o, ho, hs⟩ := List.mem_flatMap.1 hs
  have g1 := (hk o ho).1
  have g2 := h3 o ho
  have g3 := hat o ho
  simp only [oneT, List.mem_cons, List.not_mem_nil, or_false] at hs
  rcases hs with rfl | rfl | rfl
  · simp; omega
  · simp [numT_size]
  · rw [numsT_size, g3]
    unfold cntN
    simp
    omega

end Go.Proofs.YtfeeejigedndcaaGreat

namespace Go.Proofs.YtfeeejigedndcaaGreat
open Go.ChangeShapes Go.WideShapes Go.ChangeAt Go.RowKit
set_option maxRecDepth 100000

/-- What is known of a commit's writes and of what stands behind them. -/
structure Behind (s u : PS) (aw aw1 : List AcT) (S1 : List (List Int)) : Prop where
  aw : aw = aw1 ++ lastActs u.u
  wr : ∀ a ∈ aw1, a.1 = false ∧ 2 ≤ a.2.1 ∧ a.2.1 < s.dev.secs.length ∧ a.2.1 ∉ s.secs ∧ a.2.2.length = 64
  s1 : S1 = applyW s.dev.secs (prs aw1)
  dev : u.dev = ⟨S1.set (u.u.t % 2).toNat u.u.octs, []⟩
  st : Stands (S1.set (u.u.t % 2).toNat u.u.octs) u.u u.os u.ix
  slot : (S1.set (u.u.t % 2).toNat u.u.octs)[(u.u.t % 2).toNat]? = some u.u.octs
theorem Behind.stands {s u : PS} {aw aw1 : List AcT} {S1 : List (List Int)} (h : Behind s u aw aw1 S1) : StandsP u :=
  ⟨by rw [h.dev]; exact h.st, by rw [h.dev], by rw [h.dev]; exact h.slot⟩

theorem getD_next (ix : List Int) (j : Nat) : (ix.drop 1 ++ [0]).getD j 0 = ix.getD (j + 1) 0 := by
  simp only [List.getD_eq_getElem?_getD]
  by_cases h : j < (ix.drop 1).length
  · rw [List.getElem?_append_left h, List.getElem?_drop, Nat.add_comm]
  · rw [List.length_drop] at h
    rw [List.getElem?_append_right (by rw [List.length_drop]; omega), List.getElem?_eq_none (l := ix) (by omega), List.length_drop]
    rcases j - (ix.length - 1) with _ | n
    · rfl
    · simp
theorem getD_rep (n j : Nat) : (List.replicate n (0 : Int)).getD j 0 = 0 := by
  rw [List.getD_eq_getElem?_getD, List.getElem?_replicate]
  split <;> rfl

theorem commit_behind {s u : PS} {l : List PO} {aw : List AcT} (hs : StandsP s) (hc : Committed s l u aw) (hob : objE l = 0) (ht : s.u.t < 1099511627776) (hoc : ∀ o ∈ l, Octs o.data) : ∃ aw1 S1, Behind s u aw aw1 S1 := by
  obtain ⟨⟨fr, pl, wi, hP, hI, rfl⟩, hT, hO, hD⟩ := hc
  have hsok := hs.ok
  have hat := hsok.at_
  obtain ⟨⟨hN2, hN8⟩, hrg, hnd⟩ := chk_ok.1 hsok.secs
  obtain ⟨n1, n2, n3⟩ := List.nodup_append.1 (show (s.os.flatMap (·.at_) ++ s.ix).Nodup from hnd)
  have hf0 : (freeL s.dev.secs.length s.secs).Nodup := (rise_free _ _).nodup
  have hfm : ∀ z ∈ freeL s.dev.secs.length s.secs, (2 ≤ z ∧ z < s.dev.secs.length) ∧ z ∉ s.secs := fun z hz => mem_free.1 hz
  obtain ⟨k, e1, e2, e3, e4⟩ := hP.inv
  obtain ⟨f1, f2, f3, f4, f5, f6⟩ := hP.facts hat
  have f0 := hP.length
  have hon := hP.nodup (objE_keys hob).2 hat n1 hf0 (fun z hz hm => (hfm z hz).2 (List.mem_append.2 (.inl hm)))
  generalize hfr : freeL s.dev.secs.length s.secs = fr0 at *
  have hobu : objE u.os = 0 := (objE_congr f1 f2).trans hob
  have hfr2 : ∀ z ∈ fr, z ∈ fr0.drop k := fun z hz => e1 ▸ hz
  -- the index
  have hidx : ∃ m, wi.map (·.2.1) = fr.take m ∧ (∀ a ∈ wi, a.1 = false ∧ a.2.2.length = 64) ∧ u.ix = fr.take m ∧ u.u.f = u.ix.getD 0 0 ∧ u.ix.length = cntN (idxZ u.os).length ∧ (u.os ≠ [] → 0 < u.ix.length ∧ wi = wrs (idxZ u.os) u.ix (u.ix.drop 1 ++ [0])) ∧ (u.os = [] → u.ix = []) := by
    rcases hI with ⟨h1, h2, h3, h4⟩ | ⟨h1, h2, h3, h4, h5⟩
    · refine ⟨0, by rw [h4]; simp, fun a ha => (by rw [h4] at ha; cases ha), by rw [h2]; simp, by rw [h2, h3]; rfl, ?_, fun h => absurd h1 h, fun _ => h2⟩
      rw [h2, h1]
      rfl
    · have e : idxZ u.os = wr (idxT u.os) := by unfold idxZ; rw [if_neg h1]
      have hl : u.ix.length = cntN (wr (idxT u.os)).length := by rw [h3, List.length_take]; omega
      have hpos : 0 < u.ix.length := by
        rw [hl, idx_len]
        unfold cntN
        omega
      rw [e]
      exact ⟨cntN (wr (idxT u.os)).length, by rw [h5, wrs_at hl, h3], fun a ha => by rw [h5] at ha; have := wrs_facts hl a ha; exact ⟨this.1, this.2.2⟩, h3, h4, hl, fun _ => ⟨hpos, h5⟩, fun h => absurd h h1⟩
  obtain ⟨m, i1, i2, i3, i4, i5, i6, i7⟩ := hidx
  have htg : (pl ++ wi).map (·.2.1) = fr0.take (k + m) := by rw [List.map_append, e3, i1, e1, List.take_add]
  have hw0 : ∀ a ∈ pl ++ wi, a.1 = false ∧ 2 ≤ a.2.1 ∧ a.2.1 < s.dev.secs.length ∧ a.2.1 ∉ s.secs ∧ a.2.2.length = 64 := fun a ha => by
    have h1 : a.2.1 ∈ fr0.take (k + m) := htg ▸ List.mem_map.2 ⟨a, ha, rfl⟩
    obtain ⟨⟨g1, g2⟩, g3⟩ := hfm _ (List.mem_of_mem_take h1)
    rcases List.mem_append.1 ha with h | h
    · exact ⟨(f6 a h).1, g1, g2, g3, (f6 a h).2.2⟩
    · exact ⟨(i2 a h).1, g1, g2, g3, (i2 a h).2⟩
  obtain ⟨aw1, haw⟩ : ∃ aw1, pl ++ wi = aw1 := ⟨_, rfl⟩
  have hpl : ∀ a ∈ pl, a ∈ aw1 := fun a ha => haw ▸ List.mem_append.2 (.inl ha)
  have hwi : ∀ a ∈ wi, a ∈ aw1 := fun a ha => haw ▸ List.mem_append.2 (.inr ha)
  rw [haw] at htg hw0 hD ⊢
  obtain ⟨S1, hS1⟩ : ∃ S1, applyW s.dev.secs (prs aw1) = S1 := ⟨_, rfl⟩
  have hS1l : S1.length = s.dev.secs.length := by rw [← hS1, applyW_length]
  have hdev : s.dev = ⟨s.dev.secs, []⟩ := (congrArg (DS.mk s.dev.secs) hs.w : DS.mk s.dev.secs s.dev.waits = _)
  have hUd : u.dev = ⟨S1.set (u.u.t % 2).toNat u.u.octs, []⟩ := by
    rw [hD, hdev, doL_last _ _ _ (fun a ha => (hw0 a ha).1), hS1]
  have hnd1 : ((prs aw1).map fun x => x.1.toNat).Nodup := by
    have e : (prs aw1).map (fun x => x.1.toNat) = (fr0.take (k + m)).map (·.toNat) := by
      rw [← htg]
      simp [prs, List.map_map]
    rw [e]
    refine List.pairwise_map.2 (List.Pairwise.imp_of_mem ?_ (hf0.sublist (List.take_sublist _ _)))
    intro a b ha hb hne e
    have h1 := (hfm a (List.mem_of_mem_take ha)).1
    have h2 := (hfm b (List.mem_of_mem_take hb)).1
    exact hne (by omega)
  have hS1w : ∀ a ∈ aw1, S1[a.2.1.toNat]? = some a.2.2 := fun a ha => by
    obtain ⟨_, g1, g2, _, _⟩ := hw0 a ha
    rw [← hS1]
    exact applyW_mem (prs aw1) s.dev.secs hnd1 (a.2.1, a.2.2) (List.mem_map.2 ⟨a, ha, rfl⟩) (by show a.2.1.toNat < _; omega)
  have hS1k : ∀ j : Nat, (j : Int) ∉ fr0 → S1[j]? = s.dev.secs[j]? := fun j hj => by
    rw [← hS1]
    refine applyW_other _ _ _ fun x hx e => hj ?_
    obtain ⟨a, ha, rfl⟩ := List.mem_map.1 hx
    have h1 : a.2.1 ∈ fr0.take (k + m) := htg ▸ List.mem_map.2 ⟨a, ha, rfl⟩
    have g1 := (hw0 a ha).2.1
    have : (j : Int) = a.2.1 := by dsimp only at e; omega
    rw [this]
    exact List.mem_of_mem_take h1
  have hslot : (u.u.t % 2).toNat < 2 := by omega
  have hS2k : ∀ j : Nat, 2 ≤ j → (S1.set (u.u.t % 2).toNat u.u.octs)[j]? = S1[j]? := fun j hj => List.getElem?_set_ne (by omega)
  have hS2s : (S1.set (u.u.t % 2).toNat u.u.octs)[(u.u.t % 2).toNat]? = some u.u.octs := List.getElem?_set_self (by omega)
  have hS2o : (S1.set (u.u.t % 2).toNat u.u.octs)[(s.u.t % 2).toNat]? = some s.u.octs := by
    rw [List.getElem?_set_ne (by omega), hS1k _ (fun hm => by have := (hfm _ hm).1; omega), hs.slot]
  have hix0 : ∀ z ∈ u.ix, z ∈ fr0.drop k := fun z hz => hfr2 z (List.mem_of_mem_take (i3 ▸ hz))
  have hixf : ∀ z ∈ u.ix, (2 ≤ z ∧ z < s.dev.secs.length) ∧ z ∉ s.secs := fun z hz => hfm z (List.mem_of_mem_drop (hix0 z hz))
  have huok : u.u.ok = true := by
    have h1 := Ub.ok_iff.1 hsok.u
    have h2 := (objE_ok hob).1
    refine Ub.ok_iff.2 ⟨by omega, by omega, ?_⟩
    rw [hO]
    by_cases hos : u.os = []
    · have h0 : l.length = 0 := by rw [hos] at f0; simpa using f0.symm
      rw [i4, i7 hos, h0]
      simp
    · have h0 := (i6 hos).1
      have hl0 : l.length ≠ 0 := fun e => hos (List.length_eq_zero_iff.1 (by omega))
      have h3 : u.u.f ∈ u.ix := by
        rw [i4, List.getD_eq_getElem?_getD, List.getElem?_eq_getElem h0]
        exact List.getElem_mem h0
      have h4 := (hixf _ h3).1
      refine ⟨by omega, by omega, by omega, by omega, by omega, ?_⟩
      constructor <;> intro <;> omega
  have hS2w : ∀ a ∈ aw1, (S1.set (u.u.t % 2).toNat u.u.octs)[a.2.1.toNat]? = some a.2.2 := fun a ha => (hS2k _ (by have := (hw0 a ha).2.1; omega)).trans (hS1w a ha)
  have hnds : (u.os.flatMap (·.at_) ++ u.ix).Nodup := by
    have hfd : fr.Nodup := e1 ▸ hf0.sublist (List.drop_sublist _ _)
    refine List.nodup_append.2 ⟨hon, i3 ▸ hfd.sublist (List.take_sublist _ _), fun z hz z' hz' => ?_⟩
    rintro rfl
    obtain ⟨y, hy, hzy⟩ := List.mem_flatMap.1 hz
    rcases e4 y hy with g | ⟨g1, _, _⟩
    · exact (hixf z hz').2 (List.mem_append.2 (.inl (List.mem_flatMap.2 ⟨y, g, hzy⟩)))
    · have := List.nodup_append.1 (List.take_append_drop k fr0 ▸ hf0)
      exact this.2.2 z (g1 z hzy) z (hix0 z hz') rfl
  have hrange : ∀ z ∈ u.os.flatMap (·.at_) ++ u.ix, 2 ≤ z ∧ z < s.dev.secs.length := fun z hz => by
    rcases List.mem_append.1 hz with hz | hz
    · obtain ⟨y, hy, hzy⟩ := List.mem_flatMap.1 hz
      rcases e4 y hy with g | ⟨g1, _, _⟩
      · exact hrg z (List.mem_append.2 (.inl (List.mem_flatMap.2 ⟨y, g, hzy⟩)))
      · exact (hfm z (List.mem_of_mem_take (g1 z hzy))).1
    · exact (hixf z hz).1
  refine ⟨aw1, S1, rfl, hw0, hS1.symm, hUd, ⟨?_, i4, wrE_idx hobu f3, ?_, fun o ho => ?_, ?_, ⟨?_, rfl, huok, ?_, hobu, f3, ?_⟩, fun o ho => ?_⟩, hS2s⟩
  · obtain ⟨h1, h2⟩ := ubNew_newer (u := u.u) (v := s.u) hsok.u (by omega)
    have h3 := ubOf_octs huok
    have h4 := ubOf_octs hsok.u
    rcases (by omega : s.u.t % 2 = 0 ∨ s.u.t % 2 = 1) with hp | hp
    · have hq : u.u.t % 2 = 1 := by omega
      rw [hp] at hS2o
      rw [hq] at hS2s hS2o ⊢
      exact ⟨1, _, _, hS2o, hS2s, s.u.octs_octs, u.u.octs_octs, by rw [h3, h4]; exact h2⟩
    · have hq : u.u.t % 2 = 0 := by omega
      rw [hp] at hS2o
      rw [hq] at hS2s hS2o ⊢
      exact ⟨0, _, _, hS2s, hS2o, u.u.octs_octs, s.u.octs_octs, by rw [h3, h4]; exact h1⟩
  · by_cases hos : u.os = []
    · rw [i7 hos, hos]
      exact ⟨rfl, fun j hj => (by simp at hj)⟩
    · obtain ⟨h0, hwr⟩ := i6 hos
      have h1 := pages_written (secs := S1.set (u.u.t % 2).toNat u.u.octs) (zs := idxZ u.os) (ats := u.ix) (nxs := u.ix.drop 1 ++ [0]) i5 (fun a ha => hS2w a (hwi a (hwr ▸ ha))) (fun z hz => (hixf z hz).1.1) (fun j => ?_) (idxZ_octs _)
      · simpa only [getD_next] using h1
      · rw [getD_next, List.getD_eq_getElem?_getD]
        rcases hj : u.ix[j + 1]? with _ | z
        · exact ⟨Int.le_refl _, by show (0 : Int) < 8192; omega⟩
        · have := (hixf z (List.mem_of_getElem? hj)).1
          exact ⟨by show 0 ≤ z; omega, by show z < 8192; omega⟩
  · have hod : o.data ∈ l.map (·.data) := f2 ▸ List.mem_map.2 ⟨o, ho, rfl⟩
    obtain ⟨x, hx, hxd⟩ := List.mem_map.1 hod
    rcases e4 o ho with g | ⟨g1, g2, g3⟩
    · refine (hs.st.hos o g).keep fun j hj => ?_
      have hm : (j : Int) ∈ s.secs := List.mem_append.2 (.inl (List.mem_flatMap.2 ⟨o, g, hj⟩))
      have := hrg _ hm
      exact (hS2k j (by omega)).trans (hS1k j (fun h => (hfm _ h).2 hm))
    · have h1 := pages_written (secs := S1.set (u.u.t % 2).toNat u.u.octs) (zs := o.data) (ats := o.at_) (nxs := List.replicate (cntN o.data.length) 0) g2 (fun a ha => hS2w a (hpl a (g3 a ha))) (fun z hz => (hfm z (List.mem_of_mem_take (g1 z hz))).1.1) (fun j => by rw [getD_rep]; omega) (hxd ▸ hoc x hx)
      simpa only [getD_rep] using h1
  · obtain ⟨g1, g2, g3⟩ := List.nodup_append.1 hnds
    exact List.nodup_append.2 ⟨g2, g1, fun a ha b hb e => g3 b hb a ha e.symm⟩
  · obtain ⟨g1, g2, g3, g4⟩ := hsok.dev
    refine ⟨by show 2 ≤ (S1.set _ _).length; rw [List.length_set]; omega, by show (S1.set _ _).length ≤ _; rw [List.length_set]; omega, fun z hz => ?_, fun x hx => (by cases hx)⟩
    rcases List.mem_or_eq_of_mem_set hz with hz | rfl
    · rw [← hS1] at hz
      exact applyW_64 _ _ g3 (fun x hx => by obtain ⟨a, ha, rfl⟩ := List.mem_map.1 hx; exact (hw0 a ha).2.2.2.2) z hz
    · exact Ub.octs_length _
  · show (u.os.length : Int) = u.u.o
    rw [hO, f0]
  · show chk (S1.set _ _).length (u.os.flatMap (·.at_) ++ u.ix) = 0
    rw [List.length_set, hS1l]
    exact chk_ok.2 ⟨⟨hN2, hN8⟩, hrange, hnds⟩
  · have hod : o.data ∈ l.map (·.data) := f2 ▸ List.mem_map.2 ⟨o, ho, rfl⟩
    obtain ⟨x, hx, hxd⟩ := List.mem_map.1 hod
    exact hxd ▸ hoc x hx

end Go.Proofs.YtfeeejigedndcaaGreat

namespace Go.Proofs.YtfeeejigedndcaaGreat
open Go.ChangeShapes Go.WideShapes Go.ChangeAt Go.RowKit
set_option maxRecDepth 100000

abbrev uOne : Ub := ⟨1, 0, 0⟩
abbrev uTwo : Ub := ⟨2, 0, 0⟩
theorem newDev (n : Nat) : doL ⟨List.replicate n z64, []⟩ [(false, 1, uOne.octs), (false, 0, uTwo.octs), (true, 0, [])] = ⟨((List.replicate n z64).set 1 uOne.octs).set 0 uTwo.octs, []⟩ := by
  simp [doL, doA, applyW]
theorem new_stands (n : Nat) (h2 : 2 ≤ n) (h3 : n ≤ 8192) : StandsP ⟨doL ⟨List.replicate n z64, []⟩ [(false, 1, uOne.octs), (false, 0, uTwo.octs), (true, 0, [])], uTwo, [], []⟩ := by
  rw [newDev]
  have hl : ((List.replicate n z64).set 1 uOne.octs).length = n := by rw [List.length_set, List.length_replicate]
  have h0 : (((List.replicate n z64).set 1 uOne.octs).set 0 uTwo.octs)[0]? = some uTwo.octs := List.getElem?_set_self (by omega)
  have h1 : (((List.replicate n z64).set 1 uOne.octs).set 0 uTwo.octs)[1]? = some uOne.octs := by
    rw [List.getElem?_set_ne (by decide)]
    exact List.getElem?_set_self (by rw [List.length_replicate]; omega)
  have o1 : uOne.ok = true := by decide
  have o2 : uTwo.ok = true := by decide
  have hall : ∀ z ∈ ((List.replicate n z64).set 1 uOne.octs).set 0 uTwo.octs, z.length = 64 := fun z hz => by
    rcases List.mem_or_eq_of_mem_set hz with hz | rfl
    · rcases List.mem_or_eq_of_mem_set hz with hz | rfl
      · rw [List.eq_of_mem_replicate hz]
        rfl
      · exact Ub.octs_length _
    · exact Ub.octs_length _
  refine ⟨⟨⟨0, _, _, h0, h1, uTwo.octs_octs, uOne.octs_octs, ?_⟩, rfl, show wrE (idxT []) = 0 by decide, ⟨show 0 = cntN (idxZ []).length by decide, fun j hj => absurd hj (Nat.not_lt_zero _)⟩, fun o ho => (by cases ho), List.nodup_nil, ⟨⟨?_, ?_, hall, fun x hx => (by cases hx)⟩, rfl, o2, rfl, rfl, fun o ho => (by cases ho), ?_⟩, fun o ho => (by cases ho)⟩, rfl, h0⟩
  · rw [ubOf_octs o1, ubOf_octs o2]
    exact (ubNew_newer o1 (by decide)).1
  · show 2 ≤ (List.set _ _ _).length
    rw [List.length_set, hl]
    exact h2
  · show (List.set _ _ _).length ≤ 8192
    rw [List.length_set, hl]
    exact h3
  · show chk ((List.set _ _ _).length : Nat) [] = 0
    rw [List.length_set, hl]
    exact chk_ok.2 ⟨⟨by omega, by omega⟩, fun z hz => (by cases hz), List.nodup_nil⟩

theorem kept_mem {α : Type} (bs : List Bool) {x : α} : ∀ (xs : List α) (k : Nat), x ∈ keptL bs k xs → x ∈ xs
  | [], _, h => by simp [keptL] at h
  | y :: ys, k, h => by
    simp only [keptL] at h
    split at h
    · rcases List.mem_cons.1 h with rfl | h
      · exact List.mem_cons_self
      · exact List.mem_cons_of_mem _ (kept_mem bs ys (k + 1) h)
    · exact List.mem_cons_of_mem _ (kept_mem bs ys (k + 1) h)

/-- What is left when the power goes behind some acts. -/
def cutS (S : DS) (l : List AcT) (bs : List Bool) : List (List Int) := applyW (doL S l).secs (keptL bs 0 (doL S l).waits)

theorem Behind.old {s u : PS} {aw aw1 : List AcT} {S1 : List (List Int)} (h : Behind s u aw aw1 S1) (hs : StandsP s) (K : List (Int × List Int)) (hK : ∀ x ∈ K, x ∈ prs aw1) : Stands (applyW s.dev.secs K) s.u s.os s.ix := by
  have hw : ∀ x ∈ K, 2 ≤ x.1 ∧ x.1 ∉ s.secs ∧ x.2.length = 64 := fun x hx => by
    obtain ⟨a, ha, rfl⟩ := List.mem_map.1 (hK x hx)
    obtain ⟨_, h2, _, h4, h5⟩ := h.wr a ha
    exact ⟨h2, h4, h5⟩
  refine hs.st.keep (applyW_length _ _) (applyW_64 _ _ hs.ok.dev.2.2.1 fun x hx => (hw x hx).2.2) (fun k hk => applyW_other _ _ _ fun x hx => ?_) fun k hk => applyW_other _ _ _ fun x hx e => ?_
  · have := (hw x hx).1
    omega
  · obtain ⟨h2, h4, _⟩ := hw x hx
    have e' : x.1 = (k : Int) := by omega
    rw [e'] at h4
    rcases List.mem_append.1 hk with g | g
    · exact h4 (List.mem_append.2 (.inl g))
    · exact h4 (List.mem_append.2 (.inr g))

theorem Behind.cut {s u : PS} {aw aw1 : List AcT} {S1 : List (List Int)} (h : Behind s u aw aw1 S1) (hs : StandsP s) (cut : Nat) (hc : cut ≤ aw.length) (bs : List Bool) :
    (cut < aw.length ∧ Stands (cutS s.dev (aw.take cut) bs) s.u s.os s.ix) ∨ (aw.length ≤ cut + 1 ∧ Stands (cutS s.dev (aw.take cut) bs) u.u u.os u.ix) := by
  have hlen : aw.length = aw1.length + 3 := by rw [h.aw, List.length_append]; rfl
  have hdev : s.dev = ⟨s.dev.secs, []⟩ := (congrArg (DS.mk s.dev.secs) hs.w : DS.mk s.dev.secs s.dev.waits = _)
  have hfl : ∀ a ∈ aw1, a.1 = false := fun a ha => (h.wr a ha).1
  have hS1 : doL s.dev (aw1 ++ [((true, 0, []) : AcT)]) = ⟨S1, []⟩ := by
    rw [doL_append, hdev, doL_writes _ _ hfl, h.s1]
    rfl
  rcases Nat.lt_or_ge aw1.length cut with hlt | hge
  · obtain ⟨j, rfl⟩ : ∃ j, cut = aw1.length + (j + 1) := ⟨cut - aw1.length - 1, by omega⟩
    have htk : aw.take (aw1.length + (j + 1)) = (aw1 ++ [((true, 0, []) : AcT)]) ++ ([(false, u.u.t % 2, u.u.octs), (true, 0, [])] : List AcT).take j := by
      rw [h.aw, List.take_length_add_append]
      simp [lastActs]
    rcases j with _ | _ | _ | j
    · refine .inl ⟨by omega, ?_⟩
      rw [htk]
      unfold cutS
      rw [List.take_zero, List.append_nil, hS1, h.s1]
      exact h.old hs _ fun x hx => hx
    · have e : doL s.dev (aw.take (aw1.length + (0 + 1 + 1))) = ⟨S1, [(u.u.t % 2, u.u.octs)]⟩ := by
        rw [htk, doL_append, hS1]
        rfl
      unfold cutS
      rw [e]
      simp only [keptL]
      split
      · refine .inr ⟨by omega, ?_⟩
        exact h.st
      · refine .inl ⟨by omega, ?_⟩
        show Stands S1 _ _ _
        rw [h.s1]
        exact h.old hs _ fun x hx => hx
    · have e : doL s.dev (aw.take (aw1.length + (0 + 1 + 1 + 1))) = ⟨S1.set (u.u.t % 2).toNat u.u.octs, []⟩ := by
        rw [htk, doL_append, hS1]
        rfl
      refine .inr ⟨by omega, ?_⟩
      unfold cutS
      rw [e]
      exact h.st
    · omega
  · refine .inl ⟨by omega, ?_⟩
    have htk : aw.take cut = aw1.take cut := by rw [h.aw, List.take_append_of_le_length hge]
    unfold cutS
    rw [htk, hdev, doL_writes _ _ fun a ha => hfl a (List.mem_of_mem_take ha)]
    refine h.old hs _ fun x hx => ?_
    have hx2 := kept_mem bs _ _ hx
    obtain ⟨a, ha, rfl⟩ := List.mem_map.1 (show x ∈ prs (aw1.take cut) from by simpa using hx2)
    exact List.mem_map.2 ⟨a, List.mem_of_mem_take ha, rfl⟩

/-- Where the uberblock's write was not done yet, the elder store stands. -/
theorem Behind.early {s u : PS} {aw aw1 : List AcT} {S1 : List (List Int)} (h : Behind s u aw aw1 S1) (hs : StandsP s) (cut : Nat) (hc : cut + 1 < aw.length) (bs : List Bool) : Stands (cutS s.dev (aw.take cut) bs) s.u s.os s.ix := by
  rcases h.cut hs cut (by omega) bs with ⟨_, g⟩ | ⟨g, _⟩
  · exact g
  · omega

/-- What was committed fits. -/
theorem Dv.fits_of {D : Dv} (h : D.st.ok) (hw : D.st.waits = []) : D.Fits := by
  obtain ⟨h1, h2, h3, h4⟩ := (Dv.ok_iff D).1 h
  have h5 : D.ws = [] := by
    have : D.ws.map Wt.st = [] := hw
    simpa using this
  exact ⟨by omega, by rw [h5]; exact Nat.zero_le _, fun p hp => by rw [h3 p hp]; decide, fun x hx => by rw [h5] at hx; cases hx⟩

end Go.Proofs.YtfeeejigedndcaaGreat

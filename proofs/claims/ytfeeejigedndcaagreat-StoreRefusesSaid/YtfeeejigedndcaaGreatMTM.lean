/-
  Lists of texts as octets, written and read: plain mathematics. No conditions.
-/
import Derived.Test.YtfeeejigedndcaaGreatMB
import Derived.Lib.AppendStr
namespace Go.Proofs.YtfeeejigedndcaaGreat
open Go.ChangeShapes Go.WideShapes Go.ChangeAt Go.RowKit
set_option maxRecDepth 100000

/-- A text's octets. -/
def txo (s : ByteArray) : List Int := s.data.toList.map fun b => (b.toNat : Int)
theorem txo_length (s : ByteArray) : (txo s).length = s.size := by
  unfold txo
  rw [List.length_map]
  rfl
theorem txo_octs (s : ByteArray) : Octs (txo s) := by
  intro z hz
  simp only [txo, List.mem_map] at hz
  obtain ⟨b, _, rfl⟩ := hz
  have := b.toNat_lt
  omega
theorem txo_cells (s : ByteArray) : Lib.strCells s = (txo s).map (Value.int .u8) := by simp [Lib.strCells, txo]
theorem str_txo (s : ByteArray) : strOfNums (txo s) = s := by
  rcases s with ⟨⟨l⟩⟩
  simp only [strOfNums, txo, List.map_map]
  rw [List.map_congr_left (g := id), List.map_id]
  intro b _
  simp
theorem txo_str (zs : List Int) (h : Octs zs) : txo (strOfNums zs) = zs := by
  simp only [txo, strOfNums, List.map_map]
  rw [List.map_congr_left (g := id), List.map_id]
  intro z hz
  have := h z hz
  simp only [Function.comp, id]
  have e : z.toNat < 256 := by omega
  simp [UInt8.toNat_ofNat', Nat.mod_eq_of_lt e]
  omega
theorem Octs.app {a b : List Int} (ha : Octs a) (hb : Octs b) : Octs (a ++ b) := fun z hz => by
  rcases List.mem_append.1 hz with h | h
  · exact ha z h
  · exact hb z h
theorem Octs.left {a b : List Int} (h : Octs (a ++ b)) : Octs a := fun z hz => h z (by simp [hz])
theorem Octs.right {a b : List Int} (h : Octs (a ++ b)) : Octs b := fun z hz => h z (by simp [hz])
theorem Octs.tk {a : List Int} (h : Octs a) (k : Nat) : Octs (a.take k) := fun z hz => h z (List.mem_of_mem_take hz)
theorem Octs.dp {a : List Int} (h : Octs a) (k : Nat) : Octs (a.drop k) := fun z hz => h z (List.mem_of_mem_drop hz)

theorem val_put2 (n : Int) (h0 : 0 ≤ n) (h1 : n < 65536) : val (put n 2) = n := by
  simp only [put, val, List.range, List.range.loop, List.map_cons, List.map_nil, List.foldl_cons, List.foldl_nil]
  omega
theorem val_put3 (n : Int) (h0 : 0 ≤ n) (h1 : n < 16777216) : val (put n 3) = n := by
  simp only [put, val, List.range, List.range.loop, List.map_cons, List.map_nil, List.foldl_cons, List.foldl_nil]
  omega
theorem val_put8 (n : Int) : val (put n 8) = n % 18446744073709551616 := by
  simp only [put, val, List.range, List.range.loop, List.map_cons, List.map_nil, List.foldl_cons, List.foldl_nil]
  omega
theorem put_val2 (zs : List Int) (hl : zs.length = 2) (h : Octs zs) : put (val zs) 2 = zs := by
  rcases zs with _ | ⟨a, _ | ⟨b, _ | ⟨c, zs⟩⟩⟩ <;> simp at hl
  have ha := h a (by simp)
  have hb := h b (by simp)
  simp only [put, val, List.range, List.range.loop, List.map_cons, List.map_nil, List.foldl_cons, List.foldl_nil, List.cons.injEq, and_true]
  omega
theorem put_val3 (zs : List Int) (hl : zs.length = 3) (h : Octs zs) : put (val zs) 3 = zs := by
  rcases zs with _ | ⟨a, _ | ⟨b, _ | ⟨c, _ | ⟨d, zs⟩⟩⟩⟩ <;> simp at hl
  have ha := h a (by simp)
  have hb := h b (by simp)
  have hc := h c (by simp)
  simp only [put, val, List.range, List.range.loop, List.map_cons, List.map_nil, List.foldl_cons, List.foldl_nil, List.cons.injEq, and_true]
  omega
theorem val2_bd (zs : List Int) (hl : zs.length = 2) (h : Octs zs) : 0 ≤ val zs ∧ val zs < 65536 := by
  have := val_bound zs h
  rw [hl] at this
  exact this
theorem val3_bd (zs : List Int) (hl : zs.length = 3) (h : Octs zs) : 0 ≤ val zs ∧ val zs < 16777216 := by
  have := val_bound zs h
  rw [hl] at this
  exact this

/-- A text behind its length. -/
def part1 (s : ByteArray) : List Int := put s.size 3 ++ txo s
/-- Texts, each behind its length. -/
def body : List ByteArray → List Int
  | [] => []
  | s :: ss => part1 s ++ body ss
/-- Texts as octets. -/
def wr (ss : List ByteArray) : List Int := put ss.length 2 ++ body ss
/-- Is no text too long? -/
def fit (ss : List ByteArray) : Bool := ss.all fun s => decide (s.size ≤ 65536)
/-- What is told of texts that are written. -/
def wrE (ss : List ByteArray) : Int := if 1024 < ss.length then 3 else if fit ss then 0 else 5
/-- What is written of them. -/
def wrB (ss : List ByteArray) : List Int := if wrE ss = 0 then wr ss else []

theorem part1_length (s : ByteArray) : (part1 s).length = 3 + s.size := by simp [part1, put_length, txo_length]
theorem part1_octs (s : ByteArray) : Octs (part1 s) := (put_octs _ _).app (txo_octs s)
theorem body_octs : ∀ ss : List ByteArray, Octs (body ss)
  | [] => fun _ h => by cases h
  | s :: ss => (part1_octs s).app (body_octs ss)
theorem wr_octs (ss : List ByteArray) : Octs (wr ss) := (put_octs _ _).app (body_octs ss)
theorem wrB_octs (ss : List ByteArray) : Octs (wrB ss) := by
  unfold wrB
  split
  · exact wr_octs ss
  · exact fun _ h => by cases h
theorem body_snoc : ∀ (ss : List ByteArray) (s : ByteArray), body (ss ++ [s]) = body ss ++ part1 s
  | [], s => by simp [body]
  | t :: ss, s => by simp [body, body_snoc ss s]
theorem body_take (ss : List ByteArray) (k : Nat) (s : ByteArray) (h : ss[k]? = some s) : body (ss.take (k + 1)) = body (ss.take k) ++ part1 s := by
  obtain ⟨hk, rfl⟩ := List.getElem?_eq_some_iff.1 h
  rw [List.take_succ_eq_append_getElem hk, body_snoc]
theorem fit_at {ss : List ByteArray} (h : fit ss = true) {k : Nat} {s : ByteArray} (hk : ss[k]? = some s) : s.size ≤ 65536 := by
  have := List.all_eq_true.1 h s (List.mem_of_getElem? hk)
  simpa using this
theorem body_le : ∀ (ss : List ByteArray), fit ss = true → (body ss).length ≤ 65539 * ss.length
  | [], _ => by simp [body]
  | s :: ss, h => by
    simp only [fit, List.all_cons, Bool.and_eq_true, decide_eq_true_eq] at h
    have := body_le ss h.2
    simp only [body, List.length_append, part1_length, List.length_cons]
    omega
theorem fit_take {ss : List ByteArray} (h : fit ss = true) (k : Nat) : fit (ss.take k) = true :=
  List.all_eq_true.2 fun s hs => List.all_eq_true.1 h s (List.mem_of_mem_take hs)
theorem wr_length (ss : List ByteArray) : (wr ss).length = 2 + (body ss).length := by simp [wr, put_length]
theorem wrE_ok {ss : List ByteArray} : wrE ss = 0 ↔ ss.length ≤ 1024 ∧ fit ss = true := by
  unfold wrE
  split
  · constructor
    · intro h; cases h
    · intro h; omega
  · cases fit ss
    · simp
    · simp; omega

/-- The text at the beginning: what is told of it, it, and what is behind it. -/
def rd1 (zs : List Int) : Int × ByteArray × List Int :=
  if zs.length < 3 then (8, ByteArray.empty, [])
  else if 65536 < val (zs.take 3) then (5, ByteArray.empty, [])
  else if ((zs.drop 3).length : Int) < val (zs.take 3) then (8, ByteArray.empty, [])
  else (0, strOfNums ((zs.drop 3).take (val (zs.take 3)).toNat), (zs.drop 3).drop (val (zs.take 3)).toNat)
/-- So many texts, behind some, and nothing behind them. -/
def rdL : Nat → List Int → List ByteArray → Int × List ByteArray
  | 0, zs, acc => if zs.length = 0 then (0, acc) else (9, [])
  | n + 1, zs, acc => if (rd1 zs).1 = 0 then rdL n (rd1 zs).2.2 (acc ++ [(rd1 zs).2.1]) else ((rd1 zs).1, [])
/-- Octets as texts. -/
def rd (zs : List Int) : Int × List ByteArray :=
  if zs.length < 2 then (8, []) else if 1024 < val (zs.take 2) then (3, []) else rdL (val (zs.take 2)).toNat (zs.drop 2) []

theorem rd1_part (s : ByteArray) (hs : s.size ≤ 65536) (r : List Int) : rd1 (part1 s ++ r) = (0, s, r) := by
  have h3 : (part1 s ++ r).take 3 = put s.size 3 := by
    rw [part1, List.append_assoc]
    exact List.take_left' (put_length _ _)
  have hd : (part1 s ++ r).drop 3 = txo s ++ r := by
    rw [part1, List.append_assoc]
    exact List.drop_left' (put_length _ _)
  have hv : val (put s.size 3) = s.size := val_put3 _ (by omega) (by omega)
  unfold rd1
  rw [h3, hd, hv, if_neg (by rw [List.length_append, part1_length]; omega), if_neg (by omega), if_neg (by rw [List.length_append, txo_length]; omega)]
  rw [show ((s.size : Int)).toNat = s.size by omega, List.take_left' (txo_length s), List.drop_left' (txo_length s), str_txo]

theorem rdL_body : ∀ (ss : List ByteArray), fit ss = true → ∀ (r : List Int) (acc : List ByteArray), rdL ss.length (body ss ++ r) acc = if r.length = 0 then (0, acc ++ ss) else (9, [])
  | [], _, r, acc => by simp [rdL, body]
  | s :: ss, h, r, acc => by
    simp only [fit, List.all_cons, Bool.and_eq_true, decide_eq_true_eq] at h
    simp only [List.length_cons, rdL, body, List.append_assoc]
    rw [rd1_part s h.1]
    simp only [if_true]
    rw [rdL_body ss h.2 r (acc ++ [s])]
    simp

theorem rd_wr (ss : List ByteArray) (h : wrE ss = 0) (r : List Int) : rd (wr ss ++ r) = if r.length = 0 then (0, ss) else (9, []) := by
  obtain ⟨hl, hf⟩ := wrE_ok.1 h
  have h2 : (wr ss ++ r).take 2 = put ss.length 2 := by
    rw [wr, List.append_assoc]
    exact List.take_left' (put_length _ _)
  have hd : (wr ss ++ r).drop 2 = body ss ++ r := by
    rw [wr, List.append_assoc]
    exact List.drop_left' (put_length _ _)
  have hv : val (put ss.length 2) = ss.length := val_put2 _ (by omega) (by omega)
  unfold rd
  rw [h2, hd, hv, if_neg (by rw [List.length_append, wr_length]; omega), if_neg (by omega), show ((ss.length : Int)).toNat = ss.length by omega, rdL_body ss hf]
  simp

theorem rd1_cut (s : ByteArray) (hs : s.size ≤ 65536) (k : Nat) (hk : k < (part1 s).length) : (rd1 ((part1 s).take k)).1 = 8 := by
  rw [part1_length] at hk
  unfold rd1
  by_cases h : k < 3
  · rw [if_pos (by rw [List.length_take]; omega)]
  · have h3 : ((part1 s).take k).take 3 = put s.size 3 := by
      rw [List.take_take, show min 3 k = 3 by omega, part1]
      exact List.take_left' (put_length _ _)
    have hv : val (put s.size 3) = s.size := val_put3 _ (by omega) (by omega)
    rw [h3, hv, if_neg (by rw [List.length_take, part1_length]; omega), if_neg (by omega), if_pos (by rw [List.length_drop, List.length_take, part1_length]; omega)]

theorem rdL_cut : ∀ (ss : List ByteArray), fit ss = true → ∀ (k : Nat), k < (body ss).length → ∀ acc, rdL ss.length ((body ss).take k) acc = (8, [])
  | [], _, k, hk, _ => by simp [body] at hk
  | s :: ss, h, k, hk, acc => by
    simp only [fit, List.all_cons, Bool.and_eq_true, decide_eq_true_eq] at h
    simp only [body, List.length_append] at hk
    simp only [List.length_cons, rdL, body]
    by_cases hp : k < (part1 s).length
    · rw [List.take_append_of_le_length (by omega), rd1_cut s h.1 k hp]
      simp
    · rw [List.take_append, List.take_of_length_le (by omega), rd1_part s h.1]
      simp only [if_true]
      exact rdL_cut ss h.2 _ (by omega) _

theorem rd_cut (ss : List ByteArray) (h : wrE ss = 0) (k : Nat) (hk : k < (wr ss).length) : rd ((wr ss).take k) = (8, []) := by
  obtain ⟨hl, hf⟩ := wrE_ok.1 h
  rw [wr_length] at hk
  unfold rd
  by_cases h2 : k < 2
  · rw [if_pos (by rw [List.length_take]; omega)]
  · have ht : ((wr ss).take k).take 2 = put ss.length 2 := by
      rw [List.take_take, show min 2 k = 2 by omega, wr]
      exact List.take_left' (put_length _ _)
    have hd : ((wr ss).take k).drop 2 = (body ss).take (k - 2) := by
      rw [List.drop_take, wr, List.drop_left' (put_length _ _)]
    have hv : val (put ss.length 2) = ss.length := val_put2 _ (by omega) (by omega)
    rw [ht, hd, hv, if_neg (by rw [List.length_take, wr_length]; omega), if_neg (by omega), show ((ss.length : Int)).toNat = ss.length by omega, rdL_cut ss hf _ (by omega)]

theorem rd1_ok (zs : List Int) (ho : Octs zs) (h : (rd1 zs).1 = 0) : zs = part1 (rd1 zs).2.1 ++ (rd1 zs).2.2 ∧ (rd1 zs).2.1.size ≤ 65536 := by
  unfold rd1 at h ⊢
  split at h
  · cases h
  rename_i h1
  rw [if_neg h1]
  split at h
  · cases h
  rename_i h2
  rw [if_neg h2]
  split at h
  · cases h
  rename_i h3
  rw [if_neg h3]
  have hb := val3_bd (zs.take 3) (by simp; omega) (ho.tk 3)
  have hp := put_val3 (zs.take 3) (by simp; omega) (ho.tk 3)
  have hsz : (strOfNums ((zs.drop 3).take (val (zs.take 3)).toNat)).size = (val (zs.take 3)).toNat := by
    rw [strOfNums_size, List.length_take]
    omega
  refine ⟨?_, by rw [hsz]; omega⟩
  simp only [part1]
  rw [hsz, txo_str _ ((ho.dp 3).tk _), show (((val (zs.take 3)).toNat : Nat) : Int) = val (zs.take 3) by omega, hp, List.append_assoc, List.take_append_drop, List.take_append_drop]

theorem rdL_ok : ∀ (n : Nat) (zs : List Int) (acc : List ByteArray), Octs zs → (rdL n zs acc).1 = 0 → ∃ ss, (rdL n zs acc).2 = acc ++ ss ∧ ss.length = n ∧ body ss = zs ∧ fit ss = true
  | 0, zs, acc, _, h => by
    unfold rdL at h ⊢
    split at h
    · rename_i h0
      rw [if_pos h0]
      exact ⟨[], by simp, rfl, (List.eq_nil_of_length_eq_zero h0).symm, rfl⟩
    · cases h
  | n + 1, zs, acc, ho, h => by
    unfold rdL at h ⊢
    split at h
    · rename_i h0
      rw [if_pos h0]
      obtain ⟨hz, hs⟩ := rd1_ok zs ho h0
      have ho2 : Octs (rd1 zs).2.2 := by
        rw [hz] at ho
        exact ho.right
      obtain ⟨ss, h1, h2, h3, h4⟩ := rdL_ok n _ _ ho2 h
      refine ⟨(rd1 zs).2.1 :: ss, by rw [h1]; simp, by simp [h2], ?_, ?_⟩
      · simp only [body]
        rw [h3]
        exact hz.symm
      · simp only [fit, List.all_cons, Bool.and_eq_true, decide_eq_true_eq]
        exact ⟨hs, h4⟩
    · rename_i h0
      exact absurd h h0

theorem rd_ok (zs : List Int) (ho : Octs zs) (h : (rd zs).1 = 0) : wr (rd zs).2 = zs ∧ wrE (rd zs).2 = 0 := by
  unfold rd at h ⊢
  split at h
  · cases h
  rename_i h1
  rw [if_neg h1]
  split at h
  · cases h
  rename_i h2
  rw [if_neg h2]
  have hb := val2_bd (zs.take 2) (by simp; omega) (ho.tk 2)
  have hp := put_val2 (zs.take 2) (by simp; omega) (ho.tk 2)
  obtain ⟨ss, e1, e2, e3, e4⟩ := rdL_ok _ _ _ (ho.dp 2) h
  rw [e1, List.nil_append]
  refine ⟨?_, wrE_ok.2 ⟨by omega, e4⟩⟩
  rw [wr, e2, e3, show (((val (zs.take 2)).toNat : Nat) : Int) = val (zs.take 2) by omega, hp, List.take_append_drop]

theorem rdL_no : ∀ (n : Nat) (zs : List Int) (acc : List ByteArray), (rdL n zs acc).1 ≠ 0 → (rdL n zs acc).2 = []
  | 0, zs, acc, h => by
    unfold rdL at h ⊢
    split at h
    · exact absurd rfl h
    · rename_i h0
      rw [if_neg h0]
  | n + 1, zs, acc, h => by
    unfold rdL at h ⊢
    split at h
    · rename_i h0
      rw [if_pos h0]
      exact rdL_no n _ _ h
    · rename_i h0
      rw [if_neg h0]

theorem rd_no (zs : List Int) (h : (rd zs).1 ≠ 0) : (rd zs).2 = [] := by
  unfold rd at h ⊢
  split at h
  · rename_i h1; rw [if_pos h1]
  rename_i h1
  rw [if_neg h1]
  split at h
  · rename_i h2; rw [if_pos h2]
  rename_i h2
  rw [if_neg h2]
  exact rdL_no _ _ _ h

end Go.Proofs.YtfeeejigedndcaaGreat

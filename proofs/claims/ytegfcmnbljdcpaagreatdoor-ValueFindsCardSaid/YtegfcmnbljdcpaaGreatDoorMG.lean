/-
  Layer 6, texts merged: what a walk over cells visits; the small functions of the walk. For every argument within the bounds that each theorem names.
-/
import Derived.Test.YtegfcmnbljdcpaaGreatDoorMA
import Derived.Test.YtegfcmnbljdcpaaGreatDoorMC
import Derived.OneCell
import Derived.Test.YtegfcmnbljdcpaaGreatDoorMD
import Derived.Test.YtegfcmnbljdcpaaGreatDoorME
import Derived.Test.YtegfcmnbljdcpaaGreatDoorMF
import Derived.Lib.AppendStr
import Derived.Laws.OwnMore
import Derived.Laws.BytesArg
import Derived.Deep.RegionHeld3

/-
  Plain: the walk over cells with a list of open groups, and what it visits. No program.
-/
namespace Go.Proofs.YtegfcmnbljdcpaaGreatDoor
namespace Val

/-- Where a cell stands. -/
structure Spt where
  lev : Int
  ink : Int
  part : Int
/-- A list or map whose parts are being visited. -/
structure Grp where
  nx : Spt
  left : Int
  key : Txt
abbrev Ev := Cel × Spt
def zc : Cel := ⟨0, 0, [], 0⟩
def endS (s : Spt) : Spt := ⟨s.lev - 1, s.ink, s.part⟩
def closedG : List Grp → List Grp
  | [] => []
  | g :: r => if 0 < g.left then g :: r else closedG r
def closedE : List Grp → List Ev
  | [] => []
  | g :: r => if 0 < g.left then [] else if g.nx.ink = 0 then closedE r else (zc, endS g.nx) :: closedE r
def isKeyS (s : Spt) : Bool := s.ink == 6 && s.part.tmod 2 == 0
def properC (c : Cel) : Bool := (rd1 c).isSome || headC 5 c || headC 6 c
def partsC (c : Cel) : Int := if c.k = 6 then 2 * c.n else c.n
def isGrp (c : Cel) : Bool := c.k == 5 || c.k == 6
def takesG (g : Grp) (c : Cel) : Bool := c.k == 4 && (g.nx.part == 0 || decide (g.key < c.s))
def advG (g : Grp) (c : Cel) : Grp := ⟨⟨g.nx.lev, g.nx.ink, g.nx.part + 1⟩, g.left - 1, if isKeyS g.nx then c.s else g.key⟩
def newG (g : Grp) (c : Cel) : Grp := ⟨⟨g.nx.lev + 1, c.k, 0⟩, partsC c, []⟩
def pushG (g : Grp) (c : Cel) (r : List Grp) : List Grp := if isGrp c then newG g c :: advG g c :: r else advG g c :: r
def badC (N : Int) (g : Grp) (c : Cel) : Bool := !properC c || decide (N < c.n) || (isKeyS g.nx && !takesG g c)
def cat (e : List Ev) (x : Bool × List Ev) : Bool × List Ev := (x.1, e ++ x.2)
theorem cat_nil (x : Bool × List Ev) : cat [] x = x := rfl
theorem cat_cat (a b : List Ev) (x : Bool × List Ev) : cat a (cat b x) = cat (a ++ b) x := by simp [cat]
theorem cat_fst (a : List Ev) (x : Bool × List Ev) : (cat a x).1 = x.1 := rfl
def run (N : Int) : List Grp → List Cel → Bool × List Ev
  | [], [] => (true, [])
  | _ :: _, [] => (false, [])
  | [], _ :: _ => (false, [])
  | g :: st, c :: l => if badC N g c then (false, []) else cat ((c, g.nx) :: closedE (pushG g c st)) (run N (closedG (pushG g c st)) l)
mutual
/-- What is visited of a value at a spot. -/
def evs : V → Spt → List Ev
  | .null, s => [(⟨1, 0, [], 0⟩, s)]
  | .bool b, s => [(⟨2, if b then 1 else 0, [], 0⟩, s)]
  | .int n, s => [(⟨3, n, [], 0⟩, s)]
  | .str x, s => [(⟨4, 0, x, 0⟩, s)]
  | .list l, s => (⟨5, 0, [], (lenL l : Int)⟩, s) :: (evsL (s.lev + 1) 0 l ++ [(zc, ⟨s.lev, 5, (lenL l : Int)⟩)])
  | .map m, s => (⟨6, 0, [], (lenM m : Int)⟩, s) :: (evsM (s.lev + 1) 0 m ++ [(zc, ⟨s.lev, 6, 2 * (lenM m : Int)⟩)])
def evsL (lv p : Int) : L → List Ev
  | .nil => []
  | .cons v r => evs v ⟨lv, 5, p⟩ ++ evsL lv (p + 1) r
def evsM (lv p : Int) : M → List Ev
  | .nil => []
  | .cons k v r => (⟨4, 0, k, 0⟩, ⟨lv, 6, p⟩) :: (evs v ⟨lv, 6, p + 1⟩ ++ evsM lv (p + 2) r)
end
theorem lenL_flat : ∀ l : L, lenL l ≤ (flatL l).length
  | .nil => Nat.zero_le _
  | .cons v r => by
    have := lenL_flat r
    have := flat_pos v
    rw [lenL, flatL, List.length_append]
    omega
theorem lenM_flat : ∀ m : M, lenM m ≤ (flatM m).length
  | .nil => Nat.zero_le _
  | .cons k v r => by
    have := lenM_flat r
    have := flat_pos v
    rw [lenM, flatM, List.length_cons, List.length_append]
    omega
theorem adv_nk {g : Grp} (h : isKeyS g.nx = false) (c : Cel) : advG g c = ⟨⟨g.nx.lev, g.nx.ink, g.nx.part + 1⟩, g.left - 1, g.key⟩ := by
  unfold advG
  rw [h]
  rfl
theorem run_one {N : Int} {g : Grp} (st : List Grp) {c : Cel} (rest : List Cel) (h : isKeyS g.nx = false) (hp : properC c = true) (hn : c.n ≤ N) (hg : isGrp c = false) :
    run N (g :: st) (c :: rest) = cat ((c, g.nx) :: closedE (⟨⟨g.nx.lev, g.nx.ink, g.nx.part + 1⟩, g.left - 1, g.key⟩ :: st)) (run N (closedG (⟨⟨g.nx.lev, g.nx.ink, g.nx.part + 1⟩, g.left - 1, g.key⟩ :: st)) rest) := by
  have hb : badC N g c = false := by
    unfold badC
    rw [hp, h]
    simp
    omega
  rw [run, hb]
  unfold pushG
  rw [hg, adv_nk h]
  rfl
theorem run_grp {N : Int} {g : Grp} (st : List Grp) {c : Cel} (rest : List Cel) (h : isKeyS g.nx = false) (hp : properC c = true) (hn : c.n ≤ N) (hg : isGrp c = true) :
    run N (g :: st) (c :: rest) = cat ((c, g.nx) :: closedE (⟨⟨g.nx.lev + 1, c.k, 0⟩, partsC c, []⟩ :: ⟨⟨g.nx.lev, g.nx.ink, g.nx.part + 1⟩, g.left - 1, g.key⟩ :: st)) (run N (closedG (⟨⟨g.nx.lev + 1, c.k, 0⟩, partsC c, []⟩ :: ⟨⟨g.nx.lev, g.nx.ink, g.nx.part + 1⟩, g.left - 1, g.key⟩ :: st)) rest) := by
  have hb : badC N g c = false := by
    unfold badC
    rw [hp, h]
    simp
    omega
  rw [run, hb]
  unfold pushG newG
  rw [hg, adv_nk h]
  rfl
theorem nk5 (lv p : Int) : isKeyS ⟨lv, 5, p⟩ = false := rfl
theorem nk6 (lv : Int) (j : Nat) : isKeyS ⟨lv, 6, 2 * (j : Int) + 1⟩ = false := by
  have h : (2 * (j : Int) + 1).tmod 2 = 1 := by rw [Int.tmod_eq_emod_of_nonneg (by omega)]; omega
  unfold isKeyS
  simp only [h]
  rfl
theorem ky6 (lv : Int) (j : Nat) : isKeyS ⟨lv, 6, 2 * (j : Int)⟩ = true := by
  unfold isKeyS
  simp
theorem closed_pos {g : Grp} (h : 0 < g.left) (st : List Grp) : closedG (g :: st) = g :: st ∧ closedE (g :: st) = [] := by
  rw [closedG, closedE, if_pos h, if_pos h]
  exact ⟨rfl, rfl⟩
theorem closed_end {g : Grp} (h : g.left = 0) (hk : g.nx.ink ≠ 0) (st : List Grp) : closedG (g :: st) = closedG st ∧ closedE (g :: st) = (zc, endS g.nx) :: closedE st := by
  rw [closedG, closedE, if_neg (by omega), if_neg (by omega), if_neg hk]
  exact ⟨rfl, rfl⟩
/-- What the last key must be, at a place of a map. -/
def lastK (j : Nat) (key : Txt) : Option Txt := if j = 0 then none else some key
mutual
theorem run_full (N : Int) : ∀ (v : V) (g : Grp) (st : List Grp) (rest : List Cel), wf v = true → ((flat v).length : Int) ≤ N → isKeyS g.nx = false →
    run N (g :: st) (flat v ++ rest) = cat (evs v g.nx ++ closedE (⟨⟨g.nx.lev, g.nx.ink, g.nx.part + 1⟩, g.left - 1, g.key⟩ :: st)) (run N (closedG (⟨⟨g.nx.lev, g.nx.ink, g.nx.part + 1⟩, g.left - 1, g.key⟩ :: st)) rest)
  | .null, g, st, rest, _, hN, hk => run_one st rest hk rfl (by simp [flat] at hN; show (0 : Int) ≤ N; omega) rfl
  | .bool b, g, st, rest, _, hN, hk => run_one st rest hk (by cases b <;> rfl) (by simp [flat] at hN; show (0 : Int) ≤ N; omega) rfl
  | .int n, g, st, rest, _, hN, hk => run_one st rest hk (by simp [properC, rd1]) (by simp [flat] at hN; show (0 : Int) ≤ N; omega) rfl
  | .str s, g, st, rest, hw, hN, hk => by
    rw [wf] at hw
    exact run_one st rest hk (by simp [properC, rd1, keyC, hw]) (by simp [flat] at hN; show (0 : Int) ≤ N; omega) rfl
  | .list l, g, st, rest, hw, hN, hk => by
    rw [wf] at hw
    rw [flat, List.length_cons] at hN
    have h1 := lenL_flat l
    rw [flat, List.cons_append, run_grp st _ hk (by simp [properC, headC]) (by show (lenL l : Int) ≤ N; omega) rfl]
    have h2 := runL_full N l (g.nx.lev + 1) 0 [] (⟨⟨g.nx.lev, g.nx.ink, g.nx.part + 1⟩, g.left - 1, g.key⟩ :: st) rest hw (by omega)
    rw [show partsC ⟨5, 0, [], (lenL l : Int)⟩ = (lenL l : Int) from rfl, ← List.singleton_append, ← cat_cat, h2, cat_cat, cat_cat, evs]
    simp
  | .map m, g, st, rest, hw, hN, hk => by
    rw [wf] at hw
    rw [flat, List.length_cons] at hN
    have h1 := lenM_flat m
    rw [flat, List.cons_append, run_grp st _ hk (by simp [properC, headC]) (by show (lenM m : Int) ≤ N; omega) rfl]
    have h2 := runM_full N m (g.nx.lev + 1) 0 [] (⟨⟨g.nx.lev, g.nx.ink, g.nx.part + 1⟩, g.left - 1, g.key⟩ :: st) rest hw (by omega)
    rw [show partsC ⟨6, 0, [], (lenM m : Int)⟩ = 2 * (lenM m : Int) from rfl, ← List.singleton_append, ← cat_cat]
    simp only [Int.natCast_zero, Int.mul_zero, Int.zero_add] at h2
    rw [h2, cat_cat, cat_cat, evs]
    simp
theorem runL_full (N : Int) : ∀ (l : L) (lv p : Int) (key : Txt) (st : List Grp) (rest : List Cel), wfL l = true → ((flatL l).length : Int) ≤ N →
    cat (closedE (⟨⟨lv, 5, p⟩, (lenL l : Int), key⟩ :: st)) (run N (closedG (⟨⟨lv, 5, p⟩, (lenL l : Int), key⟩ :: st)) (flatL l ++ rest)) =
      cat (evsL lv p l ++ [(zc, ⟨lv - 1, 5, p + lenL l⟩)]) (cat (closedE st) (run N (closedG st) rest))
  | .nil, lv, p, key, st, rest, _, _ => by
    have h := closed_end (g := ⟨⟨lv, 5, p⟩, (lenL .nil : Int), key⟩) rfl (by show (5 : Int) ≠ 0; decide) st
    rw [h.1, h.2, cat_cat]
    simp [evsL, flatL, lenL, endS]
  | .cons v r, lv, p, key, st, rest, hw, hN => by
    rw [wfL, Bool.and_eq_true] at hw
    rw [flatL, List.length_append] at hN
    have h := closed_pos (g := ⟨⟨lv, 5, p⟩, (lenL (.cons v r) : Int), key⟩) (by show (0 : Int) < ((lenL r + 1 : Nat) : Int); omega) st
    rw [h.1, h.2, cat_nil, flatL, List.append_assoc, run_full N v _ st _ hw.1 (by omega) (nk5 lv p), ← cat_cat]
    have h2 := runL_full N r lv (p + 1) key st rest hw.2 (by omega)
    have e : ((lenL (.cons v r) : Nat) : Int) - 1 = (lenL r : Int) := by show ((lenL r + 1 : Nat) : Int) - 1 = _; omega
    simp only [e]
    rw [h2, cat_cat, evsL]
    have e2 : p + 1 + (lenL r : Int) = p + ((lenL (.cons v r) : Nat) : Int) := by show _ = p + ((lenL r + 1 : Nat) : Int); omega
    rw [e2, List.append_assoc]
theorem runM_full (N : Int) : ∀ (m : M) (lv : Int) (j : Nat) (key : Txt) (st : List Grp) (rest : List Cel), wfM (lastK j key) m = true → ((flatM m).length : Int) ≤ N →
    cat (closedE (⟨⟨lv, 6, 2 * (j : Int)⟩, 2 * (lenM m : Int), key⟩ :: st)) (run N (closedG (⟨⟨lv, 6, 2 * (j : Int)⟩, 2 * (lenM m : Int), key⟩ :: st)) (flatM m ++ rest)) =
      cat (evsM lv (2 * (j : Int)) m ++ [(zc, ⟨lv - 1, 6, 2 * (j : Int) + 2 * lenM m⟩)]) (cat (closedE st) (run N (closedG st) rest))
  | .nil, lv, j, key, st, rest, _, _ => by
    have h := closed_end (g := ⟨⟨lv, 6, 2 * (j : Int)⟩, 2 * (lenM .nil : Int), key⟩) rfl (by show (6 : Int) ≠ 0; decide) st
    rw [h.1, h.2, cat_cat]
    simp [evsM, flatM, lenM, endS]
  | .cons k v r, lv, j, key, st, rest, hw, hN => by
    rw [wfM] at hw
    simp only [Bool.and_eq_true] at hw
    obtain ⟨⟨⟨w1, w2⟩, w3⟩, w4⟩ := hw
    rw [flatM, List.length_cons, List.length_append] at hN
    have h := closed_pos (g := ⟨⟨lv, 6, 2 * (j : Int)⟩, 2 * (lenM (.cons k v r) : Int), key⟩) (by show (0 : Int) < 2 * ((lenM r + 1 : Nat) : Int); omega) st
    rw [h.1, h.2, cat_nil, flatM, List.cons_append, run]
    have hb : badC N ⟨⟨lv, 6, 2 * (j : Int)⟩, 2 * (lenM (.cons k v r) : Int), key⟩ ⟨4, 0, k, 0⟩ = false := by
      unfold badC takesG
      simp only
      rw [ky6]
      have : properC ⟨4, 0, k, 0⟩ = true := by simp [properC, rd1, keyC, w1]
      rw [this]
      have h3 : (2 * (j : Int) == 0 || decide (key < k)) = true := by
        unfold lastK at w2
        by_cases h0 : j = 0
        · subst h0; rfl
        · rw [if_neg h0] at w2
          simp only [above, decide_eq_true_eq] at w2
          simp [w2]
      rw [h3]
      simp
      omega
    rw [hb]
    simp only [Bool.false_eq_true, if_false]
    have hp : pushG ⟨⟨lv, 6, 2 * (j : Int)⟩, 2 * (lenM (.cons k v r) : Int), key⟩ ⟨4, 0, k, 0⟩ st = ⟨⟨lv, 6, 2 * (j : Int) + 1⟩, 2 * (lenM (.cons k v r) : Int) - 1, k⟩ :: st := by
      unfold pushG advG
      simp only
      rw [ky6]
      rfl
    rw [hp]
    have h' := closed_pos (g := ⟨⟨lv, 6, 2 * (j : Int) + 1⟩, 2 * (lenM (.cons k v r) : Int) - 1, k⟩) (by show (0 : Int) < 2 * ((lenM r + 1 : Nat) : Int) - 1; omega) st
    rw [h'.1, h'.2, List.append_assoc, run_full N v _ st _ w3 (by omega) (nk6 lv j), ← cat_cat]
    have h2 := runM_full N r lv (j + 1) k st rest (by unfold lastK; rw [if_neg (by omega)]; exact w4) (by omega)
    have e : 2 * ((lenM (.cons k v r) : Nat) : Int) - 1 - 1 = 2 * (lenM r : Int) := by show 2 * ((lenM r + 1 : Nat) : Int) - 1 - 1 = _; omega
    have e1 : 2 * (j : Int) + 1 + 1 = 2 * ((j + 1 : Nat) : Int) := by omega
    simp only [e, e1]
    rw [h2, cat_cat, cat_cat, evsM]
    have e2 : 2 * ((j + 1 : Nat) : Int) + 2 * (lenM r : Int) = 2 * (j : Int) + 2 * ((lenM (.cons k v r) : Nat) : Int) := by show _ = 2 * (j : Int) + 2 * ((lenM r + 1 : Nat) : Int); omega
    have e3 : 2 * (j : Int) + 2 = 2 * ((j + 1 : Nat) : Int) := by omega
    rw [e2, e3]
    simp
end
end Val
end Go.Proofs.YtegfcmnbljdcpaaGreatDoor

/-
  Plain: what the walk accepts are the well-formed values. No program.
-/
namespace Go.Proofs.YtegfcmnbljdcpaaGreatDoor
namespace Val

theorem cat_true {e : List Ev} {x : Bool × List Ev} (h : (cat e x).1 = true) : x.1 = true := h
theorem run_cons {N : Int} {g : Grp} {st : List Grp} {c : Cel} {l : List Cel} (h : (run N (g :: st) (c :: l)).1 = true) :
    badC N g c = false ∧ (run N (closedG (pushG g c st)) l).1 = true := by
  rw [run] at h
  cases hb : badC N g c with
  | true => rw [hb] at h; cases h
  | false => rw [hb] at h; exact ⟨rfl, h⟩
theorem bad_parts {N : Int} {g : Grp} {c : Cel} (h : badC N g c = false) : properC c = true ∧ c.n ≤ N ∧ (isKeyS g.nx = true → takesG g c = true) := by
  unfold badC at h
  simp only [Bool.or_eq_false_iff, Bool.not_eq_false', decide_eq_false_iff_not, Bool.and_eq_false_iff] at h
  refine ⟨h.1.1, by omega, fun hk => ?_⟩
  rcases h.2 with h2 | h2
  · rw [hk] at h2; cases h2
  · simpa using h2
theorem key_of {c : Cel} (hp : properC c = true) (hk : c.k = 4) : keyC c = true := by
  unfold properC at hp
  have h5 : headC 5 c = false := by unfold headC; rw [hk]; rfl
  have h6 : headC 6 c = false := by unfold headC; rw [hk]; rfl
  rw [h5, h6, Bool.or_false, Bool.or_false] at hp
  unfold rd1 at hp
  rw [if_neg (by omega), if_neg (by omega), if_neg (by omega), if_pos hk] at hp
  split at hp
  · assumption
  · cases hp
def SL (N : Int) (b : Nat) : Prop := ∀ (g : Grp) (st : List Grp) (l : List Cel), l.length ≤ b → (l.length : Int) ≤ N → isKeyS g.nx = false → (run N (g :: st) l).1 = true → ∃ v rest, wf v = true ∧ l = flat v ++ rest
theorem soundL {N : Int} {b : Nat} (hS : SL N b) (lv : Int) (key : Txt) (st : List Grp) : ∀ (n : Nat) (p : Int) (l : List Cel), l.length ≤ b → (l.length : Int) ≤ N →
    (run N (closedG (⟨⟨lv, 5, p⟩, (n : Int), key⟩ :: st)) l).1 = true → ∃ t rest, lenL t = n ∧ wfL t = true ∧ l = flatL t ++ rest
  | 0, p, l, _, _, _ => ⟨.nil, l, rfl, rfl, rfl⟩
  | n + 1, p, l, hb, hN, h => by
    rw [(closed_pos (g := ⟨⟨lv, 5, p⟩, ((n + 1 : Nat) : Int), key⟩) (by show (0 : Int) < ((n + 1 : Nat) : Int); omega) st).1] at h
    obtain ⟨v, r, h1, rfl⟩ := hS _ _ _ hb hN (nk5 lv p) h
    rw [List.length_append] at hb hN
    rw [run_full N v _ st r h1 (by omega) (nk5 lv p)] at h
    have h2 := cat_true h
    have e : ((n + 1 : Nat) : Int) - 1 = (n : Int) := by omega
    simp only [e] at h2
    obtain ⟨t, q, a1, a2, rfl⟩ := soundL hS lv key st n (p + 1) r (by omega) (by omega) h2
    exact ⟨.cons v t, q, by rw [lenL, a1], by rw [wfL, h1, a2]; rfl, by rw [flatL, List.append_assoc]⟩
theorem soundM {N : Int} {b : Nat} (hS : SL N b) (lv : Int) (st : List Grp) : ∀ (n j : Nat) (key : Txt) (l : List Cel), l.length ≤ b → (l.length : Int) ≤ N →
    (run N (closedG (⟨⟨lv, 6, 2 * (j : Int)⟩, 2 * (n : Int), key⟩ :: st)) l).1 = true → ∃ t rest, lenM t = n ∧ wfM (lastK j key) t = true ∧ l = flatM t ++ rest
  | 0, j, key, l, _, _, _ => ⟨.nil, l, rfl, rfl, rfl⟩
  | n + 1, j, key, l, hb, hN, h => by
    rw [(closed_pos (g := ⟨⟨lv, 6, 2 * (j : Int)⟩, 2 * ((n + 1 : Nat) : Int), key⟩) (by show (0 : Int) < 2 * ((n + 1 : Nat) : Int); omega) st).1] at h
    cases l with
    | nil => cases h
    | cons c l =>
      obtain ⟨h1, h2⟩ := run_cons h
      obtain ⟨p1, p2, p3⟩ := bad_parts h1
      have p4 := p3 (ky6 lv j)
      unfold takesG at p4
      simp only [Bool.and_eq_true, Bool.or_eq_true, beq_iff_eq, decide_eq_true_eq] at p4
      obtain ⟨p5, p6⟩ := p4
      have hkey := key_of p1 p5
      obtain ⟨k1, k2⟩ := key_eq hkey
      have hab : above (lastK j key) c.s = true := by
        unfold lastK
        split
        · rfl
        · rcases p6 with p6 | p6
          · omega
          · simpa [above] using p6
      have hp : pushG ⟨⟨lv, 6, 2 * (j : Int)⟩, 2 * ((n + 1 : Nat) : Int), key⟩ c st = ⟨⟨lv, 6, 2 * (j : Int) + 1⟩, 2 * ((n + 1 : Nat) : Int) - 1, c.s⟩ :: st := by
        unfold pushG advG isGrp
        simp only
        rw [ky6, p5]
        rfl
      rw [hp, (closed_pos (g := ⟨⟨lv, 6, 2 * (j : Int) + 1⟩, 2 * ((n + 1 : Nat) : Int) - 1, c.s⟩) (by show (0 : Int) < 2 * ((n + 1 : Nat) : Int) - 1; omega) st).1] at h2
      rw [List.length_cons] at hb hN
      obtain ⟨v, r, w1, rfl⟩ := hS _ _ _ (by omega) (by omega) (nk6 lv j) h2
      rw [List.length_append] at hb hN
      rw [run_full N v _ st r w1 (by omega) (nk6 lv j)] at h2
      have h3 := cat_true h2
      have e : 2 * ((n + 1 : Nat) : Int) - 1 - 1 = 2 * (n : Int) := by omega
      have e1 : 2 * (j : Int) + 1 + 1 = 2 * ((j + 1 : Nat) : Int) := by omega
      simp only [e, e1] at h3
      obtain ⟨t, q, a1, a2, rfl⟩ := soundM hS lv st n (j + 1) c.s r (by omega) (by omega) h3
      unfold lastK at a2
      rw [if_neg (by omega)] at a2
      refine ⟨.cons c.s v t, q, by rw [lenM, a1], by rw [wfM, k2, hab, w1, a2]; rfl, ?_⟩
      rw [flatM, List.cons_append, List.append_assoc, ← k1]
theorem sound (N : Int) : ∀ b, SL N b
  | 0 => fun g st l hb _ _ h => by
    obtain rfl := List.eq_nil_of_length_eq_zero (Nat.le_zero.1 hb)
    cases h
  | b + 1 => fun g st l hb hN hk h => by
    cases l with
    | nil => cases h
    | cons c l =>
      obtain ⟨h1, h2⟩ := run_cons h
      obtain ⟨p1, p2, _⟩ := bad_parts h1
      rw [List.length_cons] at hb hN
      unfold properC at p1
      simp only [Bool.or_eq_true] at p1
      rcases p1 with (p1 | p1) | p1
      · obtain ⟨v, hv⟩ := Option.isSome_iff_exists.1 p1
        obtain ⟨a1, a2⟩ := rd1_sound hv
        exact ⟨v, l, a1, by rw [a2]; rfl⟩
      · have hc := head_eq p1
        have hk5 : c.k = 5 := by rw [hc]
        have hp : pushG g c st = newG g c :: advG g c :: st := by unfold pushG isGrp; rw [hk5]; rfl
        rw [hp] at h2
        unfold newG partsC at h2
        rw [hk5] at h2
        simp only [show ¬ ((5 : Int) = 6) by decide, if_false] at h2
        have hn : c.n = ((c.n.toNat : Nat) : Int) := by rw [hc]; simp
        rw [hn] at h2
        obtain ⟨t, q, a1, a2, rfl⟩ := soundL (sound N b) (g.nx.lev + 1) [] (advG g c :: st) c.n.toNat 0 l (by omega) (by omega) h2
        exact ⟨.list t, q, by rw [wf, a2], by rw [flat, a1, List.cons_append, ← hc]⟩
      · have hc := head_eq p1
        have hk6 : c.k = 6 := by rw [hc]
        have hp : pushG g c st = newG g c :: advG g c :: st := by unfold pushG isGrp; rw [hk6]; rfl
        rw [hp] at h2
        unfold newG partsC at h2
        rw [hk6] at h2
        simp only [if_true] at h2
        have hn : c.n = ((c.n.toNat : Nat) : Int) := by rw [hc]; simp
        rw [hn] at h2
        obtain ⟨t, q, a1, a2, rfl⟩ := soundM (sound N b) (g.nx.lev + 1) (advG g c :: st) c.n.toNat 0 [] l (by omega) (by omega) (by simpa using h2)
        exact ⟨.map t, q, by rw [wf]; exact a2, by rw [flat, a1, List.cons_append, ← hc]⟩
def spt0 : Spt := ⟨1, 0, 0⟩
def grp0 : Grp := ⟨spt0, 1, []⟩
/-- The walk of a list of cells: is it a value, and what is visited. -/
def wlk (l : List Cel) : Bool × List Ev := run (l.length : Int) [grp0] l
theorem wlk_some {l : List Cel} {v : V} (h : par l = some v) : wlk l = (true, evs v spt0) := by
  obtain ⟨h1, rfl⟩ := par_some.1 h
  have h2 := run_full ((flat v).length : Int) v grp0 [] [] h1 (Int.le_refl _) rfl
  rw [List.append_nil] at h2
  unfold wlk
  rw [h2]
  simp [grp0, closedE, closedG, run, cat, spt0]
theorem wlk_none {l : List Cel} (h : par l = none) : (wlk l).1 = false := by
  cases hw : (wlk l).1 with
  | false => rfl
  | true =>
    obtain ⟨v, r, h1, h2⟩ := sound (l.length : Int) l.length grp0 [] l (Nat.le_refl _) (Int.le_refl _) rfl hw
    have h3 := run_full (l.length : Int) v grp0 [] r h1 (by rw [h2, List.length_append]; omega) rfl
    rw [← h2] at h3
    unfold wlk at hw
    rw [h3] at hw
    have h4 := cat_true hw
    cases r with
    | cons c r => simp [grp0, closedG, run] at h4
    | nil =>
      rw [List.append_nil] at h2
      rw [par_some.2 ⟨h1, h2⟩] at h
      cases h
end Val
end Go.Proofs.YtegfcmnbljdcpaaGreatDoor

/-
  Plain: what is visited of a value: its text, its levels, its cells, its order. No program.
-/
namespace Go.Proofs.YtegfcmnbljdcpaaGreatDoor
namespace Val
open Go.Lib (itoa decDigits)

def closeT (k : Int) : Txt := if k = 6 then [125] else [93]
def sepT (s : Spt) : Txt := if s.ink == 6 && !isKeyS s then [58] else [44]
def tokT (c : Cel) : Txt :=
  if c.k = 1 then [110, 117, 108, 108] else if c.k = 2 then (if c.i = 0 then [102, 97, 108, 115, 101] else [116, 114, 117, 101])
  else if c.k = 3 then itoa c.i else if c.k = 4 then quo c.s else if c.k = 5 then [91] else [123]
def preT (s : Spt) : Txt := if 0 < s.part then sepT s else []
/-- What a visit contributes to the text. -/
def evT (e : Ev) : Txt := if e.1.k = 0 then closeT e.2.ink else preT e.2 ++ tokT e.1
def evTs (l : List Ev) : Txt := l.flatMap evT
theorem evTs_nil : evTs [] = [] := rfl
theorem evTs_cons (e : Ev) (l : List Ev) : evTs (e :: l) = evT e ++ evTs l := rfl
theorem evTs_app (a b : List Ev) : evTs (a ++ b) = evTs a ++ evTs b := List.flatMap_append
theorem sep5 (lv p : Int) : sepT ⟨lv, 5, p⟩ = [44] := rfl
theorem sep6k (lv : Int) (j : Nat) : sepT ⟨lv, 6, 2 * (j : Int)⟩ = [44] := by
  unfold sepT
  rw [ky6]
  rfl
theorem sep6v (lv : Int) (j : Nat) : sepT ⟨lv, 6, 2 * (j : Int) + 1⟩ = [58] := by
  unfold sepT
  rw [nk6]
  rfl
mutual
theorem evs_text : ∀ (v : V) (s : Spt), evTs (evs v s) = preT s ++ text v
  | .null, s => by simp [evs, evTs, evT, tokT, text]
  | .bool b, s => by cases b <;> simp [evs, evTs, evT, tokT, text]
  | .int n, s => by simp [evs, evTs, evT, tokT, text]
  | .str x, s => by simp [evs, evTs, evT, tokT, text]
  | .list l, s => by
    have h := evsL_text l (s.lev + 1) 0
    simp only [Int.natCast_zero, if_true] at h
    rw [evs, evTs_cons, evTs_app, h]
    simp [evTs, evT, tokT, text, closeT, zc]
  | .map m, s => by
    have h := evsM_text m (s.lev + 1) 0
    simp only [Int.natCast_zero, Int.mul_zero, if_true] at h
    rw [evs, evTs_cons, evTs_app, h]
    simp [evTs, evT, tokT, text, closeT, zc]
theorem evsL_text : ∀ (l : L) (lv : Int) (p : Nat), evTs (evsL lv (p : Int) l) = if p = 0 then textL l else moreL l
  | .nil, lv, p => by simp [evsL, evTs, textL, moreL]
  | .cons v r, lv, p => by
    have h2 := evsL_text r lv (p + 1)
    rw [if_neg (by omega)] at h2
    have e : (p : Int) + 1 = ((p + 1 : Nat) : Int) := by omega
    rw [evsL, evTs_app, evs_text v, e, h2]
    by_cases h0 : p = 0
    · subst h0
      simp [preT, textL]
    · rw [if_neg h0]
      unfold preT
      simp only
      rw [if_pos (by omega), sep5, moreL]
      rfl
theorem evsM_text : ∀ (m : M) (lv : Int) (j : Nat), evTs (evsM lv (2 * (j : Int)) m) = if j = 0 then textM m else moreM m
  | .nil, lv, j => by simp [evsM, evTs, textM, moreM]
  | .cons k v r, lv, j => by
    have h2 := evsM_text r lv (j + 1)
    rw [if_neg (by omega)] at h2
    have e : 2 * (j : Int) + 2 = 2 * ((j + 1 : Nat) : Int) := by omega
    have h3 : evT (⟨4, 0, k, 0⟩, ⟨lv, 6, 2 * (j : Int)⟩) = preT ⟨lv, 6, 2 * (j : Int)⟩ ++ quo k := by simp [evT, tokT]
    have h4 : preT ⟨lv, 6, 2 * (j : Int) + 1⟩ = [58] := by
      unfold preT
      simp only
      rw [if_pos (by omega), sep6v]
    rw [evsM, evTs_cons, evTs_app, evs_text v, e, h2, h3, h4]
    by_cases h0 : j = 0
    · subst h0
      simp [preT, textM]
    · rw [if_neg h0]
      unfold preT
      simp only
      rw [if_pos (by omega), sep6k, moreM]
      simp
end
theorem lvl_pos (v : V) : 1 ≤ lvl v := by cases v <;> simp [lvl]
/-- The greatest level. -/
def evL (l : List Ev) : Int := l.foldl (fun m e => max m e.2.lev) 0
def mxL (m : Int) (l : List Ev) : Int := l.foldl (fun m e => max m e.2.lev) m
theorem mxL_app (m : Int) (a b : List Ev) : mxL m (a ++ b) = mxL (mxL m a) b := List.foldl_append
theorem mxL_cons (m : Int) (e : Ev) (a : List Ev) : mxL m (e :: a) = mxL (max m e.2.lev) a := rfl
mutual
theorem evs_lev : ∀ (v : V) (s : Spt) (m : Int), mxL m (evs v s) = max m (s.lev + lvl v - 1)
  | .null, s, m => by rw [evs, mxL_cons, lvl]; simp [mxL]
  | .bool b, s, m => by rw [evs, mxL_cons, lvl]; simp [mxL]
  | .int n, s, m => by rw [evs, mxL_cons, lvl]; simp [mxL]
  | .str x, s, m => by rw [evs, mxL_cons, lvl]; simp [mxL]
  | .list l, s, m => by
    rw [evs, mxL_cons, mxL_app, evsL_lev l (s.lev + 1) 0 (max m s.lev) (by omega), lvl, mxL_cons]
    simp only [mxL, List.foldl_nil]
    omega
  | .map x, s, m => by
    rw [evs, mxL_cons, mxL_app, evsM_lev x (s.lev + 1) 0 (max m s.lev) (by omega), lvl, mxL_cons]
    simp only [mxL, List.foldl_nil]
    omega
theorem evsL_lev : ∀ (l : L) (lv p m : Int), lv - 1 ≤ m → mxL m (evsL lv p l) = max m (lv + lvlL l - 1)
  | .nil, lv, p, m, h => by simp only [evsL, mxL, List.foldl_nil, lvlL]; omega
  | .cons v r, lv, p, m, h => by
    rw [evsL, mxL_app, evs_lev v, evsL_lev r lv (p + 1) _ (by omega), lvlL]
    simp only
    omega
theorem evsM_lev : ∀ (l : M) (lv p m : Int), lv - 1 ≤ m → mxL m (evsM lv p l) = max m (lv + lvlM l - 1)
  | .nil, lv, p, m, h => by simp only [evsM, mxL, List.foldl_nil, lvlM]; omega
  | .cons k v r, lv, p, m, h => by
    have := lvl_pos v
    rw [evsM, mxL_cons, mxL_app, evs_lev v, evsM_lev r lv (p + 2) _ (by simp only; omega), lvlM]
    simp only
    omega
end
theorem evs_lvl (v : V) : evL (evs v spt0) = lvl v := by
  have h := evs_lev v spt0 0
  have := lvl_pos v
  unfold evL
  unfold mxL at h
  rw [h]
  show max 0 ((1 : Int) + lvl v - 1) = _
  omega
def validI (n : Int) : Bool := decide (-1000000000000 ≤ n) && decide (n ≤ 1000000000000)
theorem valid3 (n : Int) (s : Txt) (k : Int) : rngC ⟨3, n, s, k⟩ = validI n := by
  unfold rngC validI
  rw [Bool.eq_iff_iff]
  simp
/-- Two tests, one of the cells of a value and one of what is visited, that agree on each cell. -/
structure Agree (p q : Cel → Bool) : Prop where
  z : p zc = true
  null : p ⟨1, 0, [], 0⟩ = q ⟨1, 0, [], 0⟩
  bool : ∀ b : Bool, p ⟨2, if b then 1 else 0, [], 0⟩ = q ⟨2, if b then 1 else 0, [], 0⟩
  int : ∀ n, p ⟨3, n, [], 0⟩ = q ⟨3, n, [], 0⟩
  str : ∀ s, p ⟨4, 0, s, 0⟩ = q ⟨4, 0, s, 0⟩
  list : ∀ n, p ⟨5, 0, [], n⟩ = q ⟨5, 0, [], n⟩
  map : ∀ n, p ⟨6, 0, [], n⟩ = q ⟨6, 0, [], n⟩
def evA (p : Cel → Bool) (l : List Ev) : Bool := l.all (fun e => p e.1)
theorem evA_cons (p : Cel → Bool) (e : Ev) (l : List Ev) : evA p (e :: l) = (p e.1 && evA p l) := rfl
theorem evA_app (p : Cel → Bool) (a b : List Ev) : evA p (a ++ b) = (evA p a && evA p b) := List.all_append
mutual
theorem evs_all {p q : Cel → Bool} (h : Agree p q) : ∀ (v : V) (s : Spt), evA p (evs v s) = (flat v).all q
  | .null, s => by simp [evs, evA, flat, h.null]
  | .bool b, s => by have := h.bool b; simp [evs, evA, flat, this]
  | .int n, s => by simp [evs, evA, flat, h.int n]
  | .str x, s => by simp [evs, evA, flat, h.str x]
  | .list l, s => by
    rw [evs, evA_cons, evA_app, evsL_all h l, evA_cons, flat, List.all_cons, h.list, h.z]
    simp [evA]
  | .map m, s => by
    rw [evs, evA_cons, evA_app, evsM_all h m, evA_cons, flat, List.all_cons, h.map, h.z]
    simp [evA]
theorem evsL_all {p q : Cel → Bool} (h : Agree p q) : ∀ (l : L) (lv i : Int), evA p (evsL lv i l) = (flatL l).all q
  | .nil, lv, i => rfl
  | .cons v r, lv, i => by rw [evsL, evA_app, evs_all h v, evsL_all h r, flatL, List.all_append]
theorem evsM_all {p q : Cel → Bool} (h : Agree p q) : ∀ (l : M) (lv i : Int), evA p (evsM lv i l) = (flatM l).all q
  | .nil, lv, i => rfl
  | .cons k v r, lv, i => by rw [evsM, evA_cons, evA_app, evs_all h v, evsM_all h r, flatM, List.all_cons, List.all_append, h.str]
end
theorem agree_rng : Agree (fun c => validI c.i) rngC where
  z := rfl
  null := rfl
  bool := fun b => by cases b <;> rfl
  int := fun n => (valid3 n [] 0).symm
  str := fun s => rfl
  list := fun n => rfl
  map := fun n => rfl
theorem agree_str : Agree strC strC := ⟨rfl, rfl, fun _ => rfl, fun _ => rfl, fun _ => rfl, fun _ => rfl, fun _ => rfl⟩
def cmpC (a b : Cel) : Int := andThen (ord a.k b.k) (andThen (ord a.i b.i) (words a.s b.s))
/-- Which of two lists of cells is first: the first difference decides. -/
def lexC : List Cel → List Cel → Int
  | [], [] => 0
  | [], _ :: _ => -1
  | _ :: _, [] => 1
  | a :: l, b :: r => andThen (cmpC a b) (lexC l r)
theorem at_0 (x : Int) : andThen 0 x = x := rfl
theorem at_n {c : Int} (h : c ≠ 0) (x : Int) : andThen c x = c := if_neg h
theorem at_c0 (c : Int) : andThen c 0 = c := by unfold andThen; split <;> omega
theorem at_at (a b c : Int) : andThen (andThen a b) c = andThen a (andThen b c) := by
  unfold andThen
  by_cases h : a = 0
  · simp [h]
  · simp [h]
theorem ord_self (a : Int) : ord a a = 0 := ord_zero.2 rfl
def cells (l : List Ev) : List Cel := l.map (·.1)
theorem cells_app (a b : List Ev) : cells (a ++ b) = cells a ++ cells b := List.map_append
theorem cells_cons (e : Ev) (b : List Ev) : cells (e :: b) = e.1 :: cells b := rfl
theorem evs_head (v : V) (s : Spt) : ∃ c r, cells (evs v s) = c :: r ∧ c.k = kind v := by
  cases v <;> exact ⟨_, _, rfl, rfl⟩
theorem cmpC_kind {a b : Cel} (h : a.k ≠ b.k) (x : Int) : andThen (cmpC a b) x = ord a.k b.k := by
  have h1 : ord a.k b.k ≠ 0 := fun e => h (ord_zero.1 e)
  unfold cmpC
  rw [at_n h1, at_n h1]
theorem lex_kind {v u : V} (h : kind v ≠ kind u) (s s' : Spt) (r r' : List Cel) : lexC (cells (evs v s) ++ r) (cells (evs u s') ++ r') = andThen (cmp v u) (lexC r r') := by
  obtain ⟨c, x, h1, h2⟩ := evs_head v s
  obtain ⟨d, y, h3, h4⟩ := evs_head u s'
  have h5 : ord (kind v) (kind u) ≠ 0 := fun e => h (ord_zero.1 e)
  rw [h1, h3, List.cons_append, List.cons_append, lexC, cmpC_kind (by rw [h2, h4]; exact h), h2, h4, cmp_kind h, at_n h5]
theorem lex_one (a b : Cel) (r r' : List Cel) (h : a.k = b.k) : lexC (a :: r) (b :: r') = andThen (andThen (ord a.i b.i) (words a.s b.s)) (lexC r r') := by
  rw [lexC, cmpC, h, ord_self, at_0]
mutual
theorem lex_evs : ∀ (v u : V) (s s' : Spt) (r r' : List Cel), lexC (cells (evs v s) ++ r) (cells (evs u s') ++ r') = andThen (cmp v u) (lexC r r')
  | .null, u, s, s', r, r' => by
    by_cases h : kind .null = kind u
    · cases u with
      | null => show lexC (_ :: r) (_ :: r') = _; rw [lex_one ⟨1, 0, [], 0⟩ ⟨1, 0, [], 0⟩ _ _ rfl]; rfl
      | _ => exact absurd h (by simp [kind])
    · exact lex_kind h ..
  | .bool a, u, s, s', r, r' => by
    by_cases h : kind (.bool a) = kind u
    · cases u with
      | bool b => show lexC (⟨2, if a then 1 else 0, [], 0⟩ :: r) (⟨2, if b then 1 else 0, [], 0⟩ :: r') = _; rw [lex_one _ ⟨2, if b then 1 else 0, [], 0⟩ _ _ (by rfl), words_self, at_c0]; rfl
      | _ => exact absurd h (by simp [kind])
    · exact lex_kind h ..
  | .int a, u, s, s', r, r' => by
    by_cases h : kind (.int a) = kind u
    · cases u with
      | int b => show lexC (⟨3, a, [], 0⟩ :: r) (⟨3, b, [], 0⟩ :: r') = _; rw [lex_one _ ⟨3, b, [], 0⟩ _ _ (by rfl), words_self, at_c0]; rfl
      | _ => exact absurd h (by simp [kind])
    · exact lex_kind h ..
  | .str a, u, s, s', r, r' => by
    by_cases h : kind (.str a) = kind u
    · cases u with
      | str b => show lexC (⟨4, 0, a, 0⟩ :: r) (⟨4, 0, b, 0⟩ :: r') = _; rw [lex_one _ ⟨4, 0, b, 0⟩ _ _ (by rfl), ord_self, at_0]; rfl
      | _ => exact absurd h (by simp [kind])
    · exact lex_kind h ..
  | .list l, u, s, s', r, r' => by
    by_cases h : kind (.list l) = kind u
    · cases u with
      | list l' =>
        rw [evs, evs, cells_cons, cells_cons, cells_app, cells_app, List.cons_append, List.cons_append, lex_one _ (⟨5, 0, [], (lenL l' : Int)⟩, s').fst _ _ (by rfl), ord_self, words_self, at_0, at_0]
        simp only [cells, List.map_cons, List.map_nil, List.append_assoc, List.singleton_append]
        exact lex_evsL l l' _ _ _ _ _ _
      | _ => exact absurd h (by simp [kind])
    · exact lex_kind h ..
  | .map l, u, s, s', r, r' => by
    by_cases h : kind (.map l) = kind u
    · cases u with
      | map l' =>
        rw [evs, evs, cells_cons, cells_cons, cells_app, cells_app, List.cons_append, List.cons_append, lex_one _ (⟨6, 0, [], (lenM l' : Int)⟩, s').fst _ _ (by rfl), ord_self, words_self, at_0, at_0]
        simp only [cells, List.map_cons, List.map_nil, List.append_assoc, List.singleton_append]
        exact lex_evsM l l' _ _ _ _ _ _
      | _ => exact absurd h (by simp [kind])
    · exact lex_kind h ..
theorem lex_evsL : ∀ (l m : L) (lv p lv' p' : Int) (r r' : List Cel), lexC (cells (evsL lv p l) ++ zc :: r) (cells (evsL lv' p' m) ++ zc :: r') = andThen (cmpL l m) (lexC r r')
  | .nil, .nil, lv, p, lv', p', r, r' => by
    show lexC (zc :: r) (zc :: r') = _
    rw [lex_one zc zc _ _ rfl, ord_self, words_self]
    rfl
  | .nil, .cons v t, lv, p, lv', p', r, r' => by
    obtain ⟨c, x, h1, h2⟩ := evs_head v ⟨lv', 5, p'⟩
    have := kind_bd v
    show lexC (zc :: r) _ = _
    rw [evsL, cells_app, h1, List.cons_append, List.cons_append, lexC, cmpC_kind (by rw [h2]; show (0 : Int) ≠ _; omega), h2, ord_lt (by show (0 : Int) < _; omega)]
    rfl
  | .cons v t, .nil, lv, p, lv', p', r, r' => by
    obtain ⟨c, x, h1, h2⟩ := evs_head v ⟨lv, 5, p⟩
    have := kind_bd v
    show lexC _ (zc :: r') = _
    rw [evsL, cells_app, h1, List.cons_append, List.cons_append, lexC, cmpC_kind (by rw [h2]; show _ ≠ (0 : Int); omega), h2]
    have h3 := ord_anti zc.k (kind v)
    rw [ord_lt (show zc.k < kind v by show (0 : Int) < _; omega)] at h3
    rw [h3]
    rfl
  | .cons v t, .cons u t', lv, p, lv', p', r, r' => by
    rw [evsL, evsL, cells_app, cells_app, List.append_assoc, List.append_assoc, lex_evs v u, lex_evsL t t', cmpL, at_at]
theorem lex_evsM : ∀ (l m : M) (lv p lv' p' : Int) (r r' : List Cel), lexC (cells (evsM lv p l) ++ zc :: r) (cells (evsM lv' p' m) ++ zc :: r') = andThen (cmpM l m) (lexC r r')
  | .nil, .nil, lv, p, lv', p', r, r' => by
    show lexC (zc :: r) (zc :: r') = _
    rw [lex_one zc zc _ _ rfl, ord_self, words_self]
    rfl
  | .nil, .cons k v t, lv, p, lv', p', r, r' => by
    show lexC (zc :: r) (_ :: _) = _
    rw [lexC, cmpC_kind (by show (0 : Int) ≠ 4; decide)]
    rfl
  | .cons k v t, .nil, lv, p, lv', p', r, r' => by
    show lexC (_ :: _) (zc :: r') = _
    rw [lexC, cmpC_kind (by show (4 : Int) ≠ 0; decide)]
    rfl
  | .cons k v t, .cons k' u t', lv, p, lv', p', r, r' => by
    rw [evsM, evsM, cells_cons, cells_cons, cells_app, cells_app, List.cons_append, List.cons_append, lex_one _ ((⟨4, 0, k', 0⟩, ⟨lv', 6, p'⟩) : Ev).fst _ _ (by rfl), ord_self, at_0, List.append_assoc, List.append_assoc, lex_evs v u, lex_evsM t t', cmpM, at_at, at_at]
end
theorem lex_cmp (v u : V) (s s' : Spt) : lexC (cells (evs v s)) (cells (evs u s')) = cmp v u := by
  have h := lex_evs v u s s' [] []
  rw [List.append_nil, List.append_nil] at h
  rw [h]
  exact at_c0 _
end Val
end Go.Proofs.YtegfcmnbljdcpaaGreatDoor

/-
  Layer 6: worlds in which some blocks change; visitors of cells; the list of open groups in memory.
-/
namespace Go.Proofs.YtegfcmnbljdcpaaGreatDoor
open Go.RowKit Go.ChangeShapes Go.WideShapes

/-- All blocks but those in F are as they were. -/
structure Mod (F : Nat → Prop) (w w' : World) : Prop where
  os : w'.os = w.os
  tape : w'.tape = w.tape
  output : w'.output = w.output
  size : w.heap.size ≤ w'.heap.size
  block : ∀ k, k < w.heap.size → ¬ F k → w'.heap[k]? = w.heap[k]?
theorem Mod.refl (F : Nat → Prop) (w : World) : Mod F w w := ⟨rfl, rfl, rfl, Nat.le_refl _, fun _ _ _ => rfl⟩
theorem Mod.trans {F G : Nat → Prop} {a b c : World} (h : Mod F a b) (k : Mod G b c) (hG : ∀ i, G i → F i ∨ a.heap.size ≤ i) : Mod F a c :=
  ⟨k.os.trans h.os, k.tape.trans h.tape, k.output.trans h.output, Nat.le_trans h.size k.size, fun i hi hf => (k.block i (Nat.lt_of_lt_of_le hi h.size) (fun g => (hG i g).elim hf (fun e => by omega))).trans (h.block i hi hf)⟩
theorem Mod.weak {F G : Nat → Prop} {a b : World} (h : Mod F a b) (hG : ∀ i, F i → G i) : Mod G a b := ⟨h.os, h.tape, h.output, h.size, fun i hi hf => h.block i hi (fun k => hf (hG i k))⟩
theorem Mod.of_bel {F : Nat → Prop} {a b : World} (h : Bel a b) : Mod F a b := ⟨h.os, h.tape, h.output, h.size, fun i hi _ => h.block i hi⟩
theorem Mod.bel {F : Nat → Prop} {a b : World} (h : Mod F a b) (hF : ∀ i, F i → a.heap.size ≤ i) : Bel a b := ⟨h.os, h.tape, h.output, h.size, fun i hi => h.block i hi (fun k => by have := hF i k; omega)⟩
/-- What is old to a, when the changes are of blocks that are new to a. -/
theorem Mod.bel_of {F : Nat → Prop} {a b c : World} (g : Bel a b) (h : Mod F b c) (hF : ∀ i, F i → a.heap.size ≤ i) : Bel a c :=
  ⟨h.os.trans g.os, h.tape.trans g.tape, h.output.trans g.output, Nat.le_trans g.size h.size, fun i hi => (h.block i (Nat.lt_of_lt_of_le hi g.size) (fun k => by have := hF i k; omega)).trans (g.block i hi)⟩
theorem Mod.grown {F : Nat → Prop} {a b : World} {row : Option Nat} (h : a.grownBy b row) (hF : ∀ i, row = some i → F i) : Mod F a b :=
  ⟨h.os, h.tape, h.output, h.size, fun i hi hf => h.block i hi (fun e => hf (hF i e.symm))⟩
theorem Mod.alloc {F : Nat → Prop} {a b : World} (h : Mod F a b) (o : Obj) : Mod F a (b.alloc o) :=
  h.trans (Mod.of_bel (F := F) (Bel.alloc (Bel.refl b) o)) (fun _ g => Or.inl g)
theorem Mod.drew {F : Nat → Prop} {a b : World} (h : Mod F a b) : Mod F a b.drew := ⟨h.os, h.tape, h.output, h.size, h.block⟩
theorem Mod.setCell {F : Nat → Prop} {a b : World} (h : Mod F a b) {p : Addr} (hp : F p.block ∨ a.heap.size ≤ p.block) (u : Value) : Mod F a (b.setCell p u) :=
  ⟨h.os, h.tape, h.output, by show a.heap.size ≤ (b.setCell p u).heap.size; simpa [World.setCell] using h.size, fun i hi hf => (Below.heap_setCell _ _ _ _ (fun e => by subst e; exact hp.elim hf (fun e => by omega))).trans (h.block i hi hf)⟩
theorem Mod.cell {F : Nat → Prop} {w w' : World} (h : Mod F w w') {p : Addr} {v : Value} (hc : w.cell? p = some v) (hp : ¬ F p.block) : w'.cell? p = some v :=
  (World.cell?_of_block (h.block p.block (cell_lt' hc) hp)).trans hc
theorem own_kept {F : Nat → Prop} {w w' : World} {base : Nat} {e : TypeId} {z : Nat} {v : Value} {n : Nat} {xs : List Value} (h : w.ownsRow base e z v n xs) (g : Mod F w w') (hv : ∀ b, v.ownBlock = some b → ¬ F b) : w'.ownsRow base e z v n xs := by
  refine ⟨h.1, ?_⟩
  rcases h.2 with h2 | ⟨b, cap, cur, rfl, hb, hc, r⟩
  · exact Or.inl h2
  · exact Or.inr ⟨b, cap, cur, rfl, hb, (g.block b (lt_of_block hc) (hv b rfl)).trans hc, r⟩
theorem own_set {w : World} {base : Nat} {e : TypeId} {z : Nat} {v : Value} {n : Nat} {xs : List Value} (h : w.ownsRow base e z v n xs) {b j : Nat} (hb : v.ownBlock = some b) (u : Value) : (w.setCell ⟨b, j, none⟩ u).ownsRow base e z v n (xs.set j u) := by
  refine ⟨by rw [List.length_set]; exact h.1, ?_⟩
  rcases h.2 with ⟨rfl, h2⟩ | ⟨g, cap, cur, rfl, hg, hc, h1, h2, h3, h4⟩
  · cases hb
  · simp only [Value.ownBlock, Option.some.injEq] at hb
    subst hb
    have hlt := lt_of_block hc
    have h' : w.heap[g] = .cells cur e (0, 0) := by simpa [Array.getElem?_eq_getElem hlt] using hc
    refine Or.inr ⟨g, cap, cur.setIfInBounds j u, rfl, hg, ?_, h1, h2, by rw [Array.size_setIfInBounds]; exact h3, ?_⟩
    · show (w.heap.modify g _)[g]? = _
      rw [Array.getElem?_eq_getElem (by simpa using hlt), Array.getElem_modify_self, h']
      rfl
    · rw [← h4, Array.toList_setIfInBounds, List.take_set]
theorem own_frozen {w : World} {base : Nat} {e : TypeId} {z : Nat} {v : Value} {n : Nat} {xs : List Value} (h : w.ownsRow base e z v n xs) {b : Nat} (j : Nat) (hb : v.ownBlock = some b) : w.frozen? ⟨b, j, none⟩ = false := by
  rcases h.2 with ⟨rfl, h2⟩ | ⟨g, cap, cur, rfl, hg, hc, _⟩
  · cases hb
  · simp only [Value.ownBlock, Option.some.injEq] at hb
    subst hb
    simp [World.frozen?, hc]
theorem own_take {w : World} {base : Nat} {e : TypeId} {z : Nat} {o : Option Addr} {n c m : Nat} {xs : List Value} (h : w.ownsRow base e z (.slice o n c) n xs) (hm : m ≤ n) : w.ownsRow base e z (.slice o m c) m (xs.take (m * z)) := by
  have hmz : m * z ≤ n * z := Nat.mul_le_mul_right z hm
  refine ⟨by rw [List.length_take, h.1]; omega, ?_⟩
  rcases h.2 with ⟨hv, h2⟩ | ⟨g, cap, cur, hv, hg, hc, h1, h2, h3, h4⟩
  · simp only [Value.slice.injEq] at hv
    obtain ⟨rfl, rfl, rfl⟩ := hv
    obtain rfl : m = 0 := by omega
    exact Or.inl ⟨rfl, rfl⟩
  · simp only [Value.slice.injEq] at hv
    obtain ⟨rfl, -, rfl⟩ := hv
    exact Or.inr ⟨g, c, cur, rfl, hg, hc, by omega, h2, h3, by rw [← h4, List.take_take, Nat.min_eq_left hmz]⟩
theorem own_cell {w : World} {base : Nat} {e : TypeId} {z : Nat} {o : Option Addr} {n c : Nat} {xs : List Value} (h : w.ownsRow base e z (.slice o n c) n xs) {b off : Nat} (ho : o = some ⟨b, off, none⟩) {j : Nat} {u : Value} (hj : xs[j]? = some u) : w.cell? ⟨b, j, none⟩ = some u := by
  have := h.cells (g := b) (by rw [ho]; rfl) j u hj
  rw [Lib.add_plain] at this
  simpa using this
/-- Where what is owned lies. -/
theorem own_at {w : World} {base : Nat} {e : TypeId} {z : Nat} {o : Option Addr} {n c : Nat} {xs : List Value} (h : w.ownsRow base e z (.slice o n c) n xs) (hn : 0 < n) : ∃ b, o = some ⟨b, 0, none⟩ ∧ base ≤ b ∧ b < w.heap.size ∧ n ≤ c := by
  rcases h.2 with ⟨hv, h2⟩ | ⟨g, cap, cur, hv, hg, hc, h1, _⟩
  · omega
  · simp only [Value.slice.injEq] at hv
    obtain ⟨rfl, -, rfl⟩ := hv
    exact ⟨g, rfl, hg, lt_of_block hc, h1⟩
namespace Val

/-- A cell, a spot, a group as values. -/
def celV (c : Cel) : Value := .agg #[.int .i64 c.k, .int .i64 c.i, .string ⟨c.s.toArray⟩, .int .i64 c.n]
def sptV (s : Spt) : Value := .agg #[.int .i64 s.lev, .int .i64 s.ink, .int .i64 s.part]
def encG (g : Grp) : List Value := [.int .i64 g.nx.lev, .int .i64 g.nx.ink, .int .i64 g.nx.part, .int .i64 g.left, .string ⟨g.key.toArray⟩]
/-- The open groups: the innermost one stands last. -/
def encS : List Grp → List Value
  | [] => []
  | g :: r => encS r ++ encG g
theorem encS_len : ∀ st : List Grp, (encS st).length = st.length * 5
  | [] => rfl
  | g :: r => by
    have := encS_len r
    show (encS r ++ encG g).length = (r.length + 1) * 5
    rw [List.length_append, this]
    show r.length * 5 + 5 = _
    omega
theorem encS_get (g : Grp) (r : List Grp) : (encS (g :: r))[r.length * 5]? = some (.int .i64 g.nx.lev) ∧ (encS (g :: r))[r.length * 5 + 1]? = some (.int .i64 g.nx.ink) ∧ (encS (g :: r))[r.length * 5 + 2]? = some (.int .i64 g.nx.part) ∧ (encS (g :: r))[r.length * 5 + 3]? = some (.int .i64 g.left) ∧ (encS (g :: r))[r.length * 5 + 4]? = some (.string ⟨g.key.toArray⟩) := by
  have hl := encS_len r
  refine ⟨?_, ?_, ?_, ?_, ?_⟩
  all_goals
    show (encS r ++ encG g)[_]? = _
    rw [List.getElem?_append_right (by omega), hl]
    simp [encG]
theorem encS_take (g : Grp) (r : List Grp) : (encS (g :: r)).take (r.length * 5) = encS r := by
  show (encS r ++ encG g).take _ = _
  rw [← encS_len r, List.take_left]
/-- What a visitor says of a cell: J holds of what was visited, of the blocks that it owns, and of the world. -/
structure Visitor (f : FuncId) (caps : Array Value) (J : List Ev → (Nat → Prop) → World → Prop) : Prop where
  enters : ∀ (args : Array Value) (w : World), (callFunc f args).run Tryz.prog w = .ok (.enter f args) w
  stay : ∀ {es : List Ev} {F : Nat → Prop} {w w' : World}, J es F w → w.heap.size ≤ w'.heap.size → (∀ k, F k → w'.heap[k]? = w.heap[k]?) → J es F w'
  lt : ∀ {es : List Ev} {F : Nat → Prop} {w : World}, J es F w → ∀ k, F k → k < w.heap.size
  call : ∀ (es : List Ev) (F : Nat → Prop) (w : World) (c : Cel) (s : Spt), J es F w → Fits c → c.s.length ≤ 1000000 → (0 ≤ s.lev ∧ s.lev ≤ 4000000) → (0 ≤ s.ink ∧ s.ink ≤ 6) → (0 ≤ s.part ∧ s.part ≤ 4000000) → es.length ≤ 4000000 →
    Calls Tryz.prog f (#[celV c, sptV s] ++ caps) w fun e w' => e = .returned (.tuple #[]) ∧ ∃ F', J (es ++ [(c, s)]) F' w' ∧ Mod F w w' ∧ ∀ k, F' k → F k ∨ w.heap.size ≤ k
end Val
end Go.Proofs.YtegfcmnbljdcpaaGreatDoor

/-
  Layer 6: num.Format and its text.
-/
namespace Go.Proofs.YtegfcmnbljdcpaaGreatDoor
open Go.RowKit
namespace Num

set_option maxRecDepth 100000 in
set_option maxHeartbeats 1000000 in
theorem format_bel (n : Int) (h1 : -9223372036854775808 ≤ n) (h2 : n ≤ 9223372036854775807) (w : World) :
    Calls Tryz.prog 72 #[.int .i64 n] w fun e w' => e = .returned (.string ⟨(fmtL n).toArray⟩) ∧ Bel w w' := by
  unfold fmtL
  obtain ⟨N, hN⟩ : ∃ N : Nat, abz n = N := Int.eq_ofNat_of_zero_le (by unfold abz; split <;> omega)
  have hNb : N ≤ 9223372036854775808 := by unfold abz at hN; split at hN <;> omega
  rw [hN]
  have e : ((N : Int)).toNat = N := by omega
  rw [e]
  clear e
  have HN := Lib.hid hN
  clear hN
  have k0 := ndF_pos 18 N
  have k1 := ndF_le 18 N
  generalize hk : ndF 18 N = K at *
  have Hk := Lib.hid hk
  clear hk
  have hmk := fun W => run_make_row' (P := Tryz.prog) 65 5 (.int .u8 0) 1 Tryz.underlying65 info8 rfl .i64 .i64 K (by omega) (by omega) W
  go_enter Tryz.func72, Tryz.ntmps72
  go_wp2_with (first | (go_at_call 87; refine (amount_any _ (by omega) (by omega) _).mono ?_; rintro e w' ⟨rfl, rfl⟩; rw [HN.out]) | (go_at_call 88; refine (countDigits_any _ (by omega) _).mono ?_; rintro e w' ⟨rfl, rfl⟩; rw [Hk.out]))
  go_loopw [3, 13] (fun r c wr => ∃ (i m : Nat), i ≤ K ∧ c = .int .i64 (i : Int) ∧ r = .int .u64 (m : Int) ∧ m ≤ 9223372036854775808 ∧ Hid (m = N / 10 ^ i) ∧ wr.rowIs w.heap.size 5 K (rowF K N i) ∧ Bel w wr) (fun _ c _ => K - (intOf c).toNat)
  case atStart =>
    refine ⟨0, N, Nat.zero_le _, rfl, rfl, hNb, Lib.hid (by simp), ?_, (Bel.refl _).alloc _⟩
    exact (World.rowIs_made w (.int .u8 0) K 5).congr fun j hj => by simp [rowF, hj]
  case round =>
    obtain ⟨i, m, hi, rfl, rfl, hm, HM, hrow, hbel⟩ := hrel
    by_cases g : i < K
    · have hcell := hrow.cell (i := K - 1 - i) (by omega)
      have hfree := hrow.frozen (K - 1 - i)
      have HR := Lib.hid hrow
      have hdig := Lib.hid (digs_get K N i g)
      clear hrow
      go_wp2
      go_roundw
      case rel =>
        refine ⟨i + 1, m / 10, by omega, by go_num, by go_num, by omega, Lib.hid (by rw [HM.out, Nat.pow_succ, Nat.div_div_eq_div_mul]), ?_, hbel.setCell (Nat.le_refl _) _⟩
        refine (HR.out.set (K - 1 - i) _).congr fun j hj => ?_
        have hd := hdig.out
        rw [← HM.out] at hd
        unfold rowF
        by_cases e : j = K - 1 - i
        · subst e
          rw [if_pos rfl, if_neg (by omega), hd]
          simp [dgt]; omega
        · rw [if_neg e]
          by_cases e2 : j < K - i
          · rw [if_pos e2, if_pos (by omega)]
          · rw [if_neg e2, if_neg (by omega)]
      case measure => simp [intOf]; omega
    · obtain rfl : i = K := by omega
      have hl := digs_len i N
      have hstr : ∀ W, W = wr → (convert 65 9 (.slice (some ⟨w.heap.size, 0, none⟩) i i)).run Tryz.prog W = .ok (.string ⟨(digs i N).toArray⟩) W := by
        rintro W rfl
        have := run_convert_bytes_back (P := Tryz.prog) W 65 9 5 ⟨w.heap.size, 0, none⟩ i (digs i N) Tryz.underlying65 Tryz.underlying5 Tryz.underlying9 (fun j hj => by
          have hc := hrow.cell (i := j) (by omega)
          have : (⟨w.heap.size, 0, none⟩ : Addr).add j = ⟨w.heap.size, j, none⟩ := by simp [Addr.add]; omega
          rw [this, hc]
          have hj' : j < (digs i N).length := hj
          simp [rowF, List.getD_eq_getElem?_getD, List.getElem?_eq_getElem hj'])
        rw [hl] at this
        exact this
      have hs := hstr wr rfl
      have hlb : (digs i N).length ≤ 19 := by omega
      clear hstr hl hrow
      by_cases hn : n < 0
      · go_wp2
        go_ret
        exact ⟨by simp; exact ByteArray.ext (by simp), hbel⟩
      · go_wp2
        go_ret
        exact ⟨by simp, hbel⟩

theorem isDig_isD : isDig = Val.isD := rfl
theorem valF_valD : ∀ (l : List UInt8) (a : Nat), valF a l = l.foldl Val.stepD a
  | [], a => valF_nil a
  | c :: r, a => by rw [valF_cons, valF_valD r]; rfl
theorem decB_okD {l : List UInt8} (h : decB l = true) : Val.okD l = true := by
  unfold decB at h
  unfold Val.okD
  rw [isDig_isD] at h
  simp only [Bool.and_eq_true, Bool.or_eq_true, beq_iff_eq, Bool.not_eq_true', bne_iff_ne] at h ⊢
  rcases h.2 with rfl | h2
  · exact ⟨⟨h.1, rfl⟩, Or.inl rfl⟩
  · exact ⟨⟨h.1, h2.1⟩, Or.inr h2.2⟩
theorem digs_dec (n : Nat) (h : n < 10 ^ 19) : digs (ndF 18 n) n = Lib.decDigits n := by
  have h1 := Val.dec_of_ok (decB_okD (decB_digs n h))
  have h2 : Val.valD (digs (ndF 18 n) n) = n := by
    unfold Val.valD
    rw [← valF_valD, fold_digs]
    exact Nat.mod_eq_of_lt (lt_ndF 18 n h)
  rw [h2] at h1
  exact h1.symm
theorem fmt_itoa (n : Int) (h1 : -9223372036854775808 ≤ n) (h2 : n ≤ 9223372036854775807) : fmtL n = Lib.itoa n := by
  unfold fmtL Lib.itoa abz
  by_cases h : n < 0
  · rw [if_pos h, if_pos h, if_pos h, digs_dec _ (by omega)]
    have e : (-n).toNat = n.natAbs := by omega
    rw [e]
    rfl
  · rw [if_neg h, if_neg h, if_neg h, digs_dec _ (by omega)]
    rfl
end Num
end Go.Proofs.YtegfcmnbljdcpaaGreatDoor

/-
  Layer 6: closed, the ends of groups, whatever the visitor.
-/
namespace Go.Proofs.YtegfcmnbljdcpaaGreatDoor
open Go.RowKit Go.ChangeShapes Go.WideShapes
namespace Val

/-- Bounds of a group. -/
def GOk (N : Nat) (g : Grp) : Prop := (0 ≤ g.nx.lev ∧ g.nx.lev ≤ N) ∧ (0 ≤ g.nx.ink ∧ g.nx.ink ≤ 6) ∧ (0 ≤ g.nx.part ∧ g.nx.part ≤ N) ∧ (-4000000 ≤ g.left ∧ g.left ≤ 4000000) ∧ g.key.length ≤ 1000000 ∧ (g.nx.ink ≠ 0 → 1 ≤ g.nx.lev)
theorem elem_grp : Tryz.prog.underlying 84 = some (.slice (Tryz.prog.elem 84)) := by kernel_rfl
theorem size_grp (w : World) : (sizeOf (Tryz.prog.elem 84)).run Tryz.prog w = .ok 5 w := by kernel_rfl
theorem info_grp : (Tryz.prog.info? 83).map (fun i => (i.zero, i.size, i.bytes)) = some (some (.agg #[.int .i64 0, .int .i64 0, .int .i64 0, .int .i64 0, .string ByteArray.empty]), 5, 48) := by kernel_rfl
/-- The slice without its last element. -/
theorem cut_last (o : Option Addr) (m c : Nat) (h : m ≤ c) (W : World) : (Instr.slice 84 (.slice o (m + 1) c) none (some (.int .i64 (m : Int))) none).run Tryz.prog W = .ok (.slice o m c) W := by
  rw [run_slice_h W 84 _ (m + 1) c elem_grp .i64 (m : Int) (by omega) (by omega), size_grp]
  cases o with
  | none => simp [Result.andThen, sliced]
  | some a => simp only [Result.andThen, sliced, Int.toNat_natCast, Nat.zero_mul, Nat.sub_zero, Option.map_some, Addr.add_zero', ite_self]
set_option maxRecDepth 100000 in
set_option maxHeartbeats 4000000 in
theorem closed_any {f : FuncId} {caps : Array Value} {J : List Ev → (Nat → Prop) → World → Prop} (hv : Visitor f caps J) (st : List Grp) (es : List Ev) (F : Nat → Prop) (o : Option Addr) (n c base : Nat) (w : World)
    (hJ : J es F w) (hown : w.ownsRow base 83 5 (.slice o n c) n (encS st)) (hsep : ∀ b off, o = some ⟨b, off, none⟩ → ¬ F b) (hst : ∀ g ∈ st, GOk 4000000 g) (hb : es.length + st.length ≤ 4000000) :
    Calls Tryz.prog 69 #[.slice o n c, .func (.func f) #[] caps] w fun e w' => e = .returned (.slice o (closedG st).length c) ∧ (∃ F', J (es ++ closedE st) F' w' ∧ w'.ownsRow base 83 5 (.slice o (closedG st).length c) (closedG st).length (encS (closedG st)) ∧ Mod F w w' ∧ (∀ k, F' k → F k ∨ w.heap.size ≤ k)) := by
  have hn : st.length = n := by have := hown.1; rw [encS_len] at this; omega
  have HV := Lib.hid hv
  clear hv
  go_enter Tryz.func69, Tryz.ntmps69
  go_wp2
  go_loopw [0] (fun v wr => ∃ (st' : List Grp) (es' : List Ev) (F' : Nat → Prop), v = .slice o st'.length c ∧ Hid (closedG st' = closedG st) ∧ Hid (es' ++ closedE st' = es ++ closedE st) ∧ Hid (J es' F' wr) ∧ Hid (wr.ownsRow base 83 5 (.slice o st'.length c) st'.length (encS st')) ∧ Hid (Mod F w wr) ∧ Hid (∀ k, F' k → F k ∨ w.heap.size ≤ k) ∧ Hid (∀ b off, o = some ⟨b, off, none⟩ → ¬ F' b) ∧ Hid (∀ g ∈ st', GOk 4000000 g) ∧ es'.length + st'.length ≤ 4000000) (fun v _ => match v with | .slice _ n _ => n | _ => 0)
  case atStart => exact ⟨st, es, F, by rw [hn], Lib.hid rfl, Lib.hid rfl, Lib.hid hJ, Lib.hid (by rw [hn]; exact hown), Lib.hid (Mod.refl _ _), Lib.hid (fun k hk => Or.inl hk), Lib.hid hsep, Lib.hid hst, hb⟩
  case round =>
    obtain ⟨st', es', F', rfl, e1, e2, HJ, HO, HM, HF, HS, HG, hb'⟩ := hrel
    clear hJ hown hsep hst hb hn
    cases st' with
    | nil =>
      simp only [List.length_nil]
      have e3 := Lib.hid e1.out.symm
      have e4 := Lib.hid e2.out.symm
      clear e1 e2
      go_wp2
      go_ret
      rw [e3.out, e4.out]
      exact ⟨rfl, F', by rw [closedE, List.append_nil]; exact HJ.out, HO.out, HM.out, HF.out⟩
    | cons g r =>
      simp only [List.length_cons] at hb' ⊢
      obtain ⟨b, rfl, hbb, hbl, hnc⟩ := own_at HO.out (by simp)
      obtain ⟨c0, c1, c2, c3, c4⟩ := encS_get g r
      have d0 := own_cell HO.out rfl c0
      have d1 := own_cell HO.out rfl c1
      have d2 := own_cell HO.out rfl c2
      have d3 := own_cell HO.out rfl c3
      clear c0 c1 c2 c3 c4
      obtain ⟨g1, g2, g3, g4, g5, g6⟩ := HG.out g (List.mem_cons_self ..)
      have hcut := cut_last (some ⟨b, 0, none⟩) r.length c (by simp at hnc; omega)
      have hent := HV.out.enters
      have hsb : ¬ F' b := HS.out b 0 rfl
      have hot := Lib.hid (own_take HO.out (m := r.length) (by simp))
      rw [encS_take] at hot
      have Hsb := Lib.hid hsb
      clear hsb
      by_cases hl : 0 < g.left
      · obtain ⟨x1, x2⟩ := closed_pos hl r
        rw [x1] at e1
        rw [x2, List.append_nil] at e2
        have e3 := Lib.hid e1.out.symm
        have e4 := Lib.hid e2.out.symm
        clear e1 e2 x1 x2 hot
        go_wp2
        go_ret
        rw [e3.out, e4.out]
        exact ⟨rfl, F', HJ.out, HO.out, HM.out, HF.out⟩
      · by_cases hi : g.nx.ink = 0
        · have x1 : closedG (g :: r) = closedG r := if_neg hl
          have x2 : closedE (g :: r) = closedE r := by rw [closedE, if_neg hl, if_pos hi]
          rw [x1] at e1
          rw [x2] at e2
          clear x1 x2
          have HJ2 : Hid (J es' F' (wr.alloc (.cells #[.int .i64 g.nx.lev, .int .i64 g.nx.ink, .int .i64 g.nx.part] 68))) := Lib.hid (HV.out.stay HJ.out (Nat.le_of_lt (alloc_lt _ _)) (fun k hk => Below.heap_alloc _ _ _ (HV.out.lt HJ.out k hk)))
          have HO2 := Lib.hid (hot.out.alloc (.cells #[.int .i64 g.nx.lev, .int .i64 g.nx.ink, .int .i64 g.nx.part] 68))
          have HM2 := Lib.hid (HM.out.alloc (.cells #[.int .i64 g.nx.lev, .int .i64 g.nx.ink, .int .i64 g.nx.part] 68))
          have HG2 : Hid (∀ g ∈ r, GOk 4000000 g) := Lib.hid fun x hx => HG.out x (List.mem_cons_of_mem _ hx)
          have hb2 : es'.length + r.length ≤ 4000000 := by omega
          have hbx := Lib.hid hb2
          have hlen := Lib.hid (rfl : r.length = r.length)
          generalize hm : r.length = m at *
          clear hot HG hb' hlen
          rw [hi] at HJ2 HO2 HM2
          go_wp2
          skip
          refine ⟨⟨r, es', F', by rw [hm], e1, e2, HJ2, by rw [hm]; exact HO2, HM2, HF, HS, HG2, by rw [hm]; exact hb2⟩, ?_⟩
          simp
        · have x1 : closedG (g :: r) = closedG r := if_neg hl
          have x2 : closedE (g :: r) = (zc, endS g.nx) :: closedE r := by rw [closedE, if_neg hl, if_neg hi]
          rw [x1] at e1
          rw [x2] at e2
          clear x1 x2
          have HJ2 : Hid (J es' F' (wr.alloc (.cells #[.int .i64 (g.nx.lev - 1), .int .i64 g.nx.ink, .int .i64 g.nx.part] 68))) := Lib.hid (HV.out.stay HJ.out (Nat.le_of_lt (alloc_lt _ _)) (fun k hk => Below.heap_alloc _ _ _ (HV.out.lt HJ.out k hk)))
          have HO2 := Lib.hid (hot.out.alloc (.cells #[.int .i64 (g.nx.lev - 1), .int .i64 g.nx.ink, .int .i64 g.nx.part] 68))
          have HM2 := Lib.hid (HM.out.alloc (.cells #[.int .i64 (g.nx.lev - 1), .int .i64 g.nx.ink, .int .i64 g.nx.part] 68))
          have HG2 : Hid (∀ g ∈ r, GOk 4000000 g) := Lib.hid fun x hx => HG.out x (List.mem_cons_of_mem _ hx)
          have hcall := Lib.hid (HV.out.call es' F' _ zc (endS g.nx) HJ2.out ⟨⟨by decide, by decide⟩, ⟨by decide, by decide⟩, ⟨by decide, by decide⟩, by decide⟩ (by decide) ⟨by have := g6 hi; show 0 ≤ g.nx.lev - 1; omega, by show g.nx.lev - 1 ≤ 4000000; omega⟩ g2 g3 (by omega))
          have hbx : Hid (es'.length + r.length + 1 ≤ 4000000) := Lib.hid (by omega)
          have hb2 : r.length ≤ 4000000 := by omega
          have hlm := Lib.hid (alloc_lt wr (.cells #[.int .i64 (g.nx.lev - 1), .int .i64 g.nx.ink, .int .i64 g.nx.part] 68))
          generalize hm : r.length = m at *
          clear hot HG hb'
          go_wp2_with fail
          refine hcall.out.mono ?_
          rintro e w1 ⟨rfl, F1, j1, m1, f1⟩
          have HJ3 := Lib.hid j1
          have HO3 := Lib.hid (own_kept HO2.out m1 (fun x hx => by simp only [Value.ownBlock, Option.some.injEq] at hx; subst hx; exact Hsb.out))
          have HM3 : Hid (Mod F w w1) := Lib.hid (HM2.out.trans m1 HF.out)
          have HF3 : Hid (∀ k, F1 k → F k ∨ w.heap.size ≤ k) := Lib.hid fun k hk => by
            rcases f1 k hk with h | h
            · exact HF.out k h
            · exact Or.inr (by have := HM2.out.size; omega)
          have HS3 : Hid (∀ b1 off, some (⟨b, 0, none⟩ : Addr) = some ⟨b1, off, none⟩ → ¬ F1 b1) := Lib.hid fun b1 off hx hk => by
            simp only [Option.some.injEq, Addr.mk.injEq] at hx
            obtain ⟨rfl, -⟩ := hx
            rcases f1 b hk with h | h
            · exact Hsb.out h
            · have := hlm.out; omega
          clear m1 f1 j1 hcall HJ2 HO2 HM2 HJ HO HM HF HS
          go_wp2
          refine ⟨⟨r, es' ++ [(zc, endS g.nx)], F1, by rw [hm], e1, Lib.hid (by rw [← e2.out]; simp), HJ3, by rw [hm]; exact HO3, HM3, HF3, HS3, HG2, by rw [hm, List.length_append]; have := hbx.out; simp; omega⟩, ?_⟩
          simp
end Val
end Go.Proofs.YtegfcmnbljdcpaaGreatDoor

/-
  Layer 6: the small functions of the walk: isPlain, isKey, isGroup, parts, takes, isProper.
-/
namespace Go.Proofs.YtegfcmnbljdcpaaGreatDoor
open Go.RowKit Go.ChangeShapes Go.WideShapes
namespace Val

theorem isPlain_any (s : ByteArray) (hs : s.size ≤ maxLen) (w : World) :
    Calls Tryz.prog 86 #[.string s] w fun e w' => e = .returned (.bool (plain s.toList)) ∧ w = w' := by
  unfold maxLen at hs
  go_enter Tryz.func86, Tryz.ntmps86
  go_wp2
  go_loop [6] (fun i => ∃ k : Nat, i = .int .i64 (k : Int) ∧ k ≤ s.size ∧ Hid ((s.toList.drop k).all plainC = plain s.toList)) (fun i => s.size - (intOf i).toNat)
  case atStart => exact ⟨0, rfl, Nat.zero_le _, Lib.hid rfl⟩
  case round =>
    obtain ⟨k, rfl, hk, hr⟩ := hrel
    by_cases hlt : k < s.size
    · have hst := plain_step s k hlt
      rw [plainC_byte] at hst
      by_cases h1 : (s[k].toNat : Int) < 32
      · have hz := Lib.hid (hr.out.symm.trans (hst.trans (by simp [h1])) : plain s.toList = false)
        clear hst hr
        go_wp2
        go_ret
        exact ⟨by rw [hz.out]; rfl, rfl⟩
      · by_cases h2 : 126 < (s[k].toNat : Int)
        · have hz := Lib.hid (hr.out.symm.trans (hst.trans (by simp [h1, h2])) : plain s.toList = false)
          clear hst hr
          go_wp2
          go_ret
          exact ⟨by rw [hz.out]; rfl, rfl⟩
        · have hz : Hid ((s.toList.drop (k + 1)).all plainC = plain s.toList) := Lib.hid (by
            rw [← hr.out, hst]
            simp [h1, h2])
          clear hst hr
          go_wp2
          go_round
          case rel => exact ⟨k + 1, by go_num, by omega, hz⟩
          case measure => simp [intOf]; omega
    · obtain rfl : k = s.size := by omega
      have hz := Lib.hid (hr.out.symm.trans (by rw [List.drop_of_length_le (by rw [toL_len]; omega)]; rfl) : plain s.toList = true)
      clear hr
      go_wp2
      go_ret
      exact ⟨by rw [hz.out]; rfl, rfl⟩
theorem isKey_any (lev ink part : Int) (hp : 0 ≤ part ∧ part ≤ 4000000) (w : World) :
    Calls Tryz.prog 66 #[.agg #[.int .i64 lev, .int .i64 ink, .int .i64 part]] w fun e w' => e = .returned (.bool (isKeyS ⟨lev, ink, part⟩)) ∧ Bel w w' := by
  have hz := Lib.hid (show isKeyS ⟨lev, ink, part⟩ = (ink == 6 && part % 2 == 0) by unfold isKeyS; rw [← Int.tmod_eq_emod_of_nonneg hp.1])
  generalize isKeyS ⟨lev, ink, part⟩ = r at hz ⊢
  by_cases h1 : ink = 6
  · subst h1
    by_cases h2 : part % 2 = 0
    · have hz2 := Lib.hid (hz.out.trans (by rw [h2]; rfl) : r = true)
      go_enter Tryz.func66, Tryz.ntmps66
      go_wp2
      go_ret
      exact ⟨by rw [hz2.out]; rfl, Bel.alloc (Bel.refl _) _⟩
    · have hb2 : (part % 2 == 0) = false := by simpa using h2
      have hz2 := Lib.hid (hz.out.trans (by rw [hb2]; rfl) : r = false)
      go_enter Tryz.func66, Tryz.ntmps66
      go_wp2
      go_ret
      exact ⟨by rw [hz2.out]; rfl, Bel.alloc (Bel.refl _) _⟩
  · have hz2 := Lib.hid (hz.out.trans (by rw [show (ink == 6) = false from by simpa using h1]; rfl) : r = false)
    go_enter Tryz.func66, Tryz.ntmps66
    go_wp2
    go_ret
    exact ⟨by rw [hz2.out]; rfl, Bel.alloc (Bel.refl _) _⟩

theorem isGroup_any (k i n : Int) (s : ByteArray) (w : World) :
    Calls Tryz.prog 30 #[.agg #[.int .i64 k, .int .i64 i, .string s, .int .i64 n]] w fun e w' => e = .returned (.bool (isGrp ⟨k, i, s.toList, n⟩)) ∧ Bel w w' := by
  have hz := Lib.hid (show isGrp ⟨k, i, s.toList, n⟩ = (k == 5 || k == 6) from rfl)
  generalize isGrp ⟨k, i, s.toList, n⟩ = r at hz ⊢
  by_cases h5 : k = 5
  · subst h5
    have hz2 := Lib.hid (hz.out.trans rfl : r = true)
    clear hz
    go_enter Tryz.func30, Tryz.ntmps30
    go_wp2
    go_ret
    exact ⟨by rw [hz2.out]; rfl, Bel.alloc (Bel.refl _) _⟩
  · skip
    by_cases h6 : k = 6
    · subst h6
      have hz2 := Lib.hid (hz.out.trans rfl : r = true)
      clear hz
      go_enter Tryz.func30, Tryz.ntmps30
      go_wp2
      go_ret
      exact ⟨by rw [hz2.out]; rfl, Bel.alloc (Bel.refl _) _⟩
    · skip
      have hb5 : (k == 5) = false := by simpa using h5
      have hb6 : (k == 6) = false := by simpa using h6
      have hz2 := Lib.hid (hz.out.trans (by rw [hb5, hb6]; rfl) : r = false)
      clear hz
      go_enter Tryz.func30, Tryz.ntmps30
      go_wp2
      go_ret
      exact ⟨by rw [hz2.out]; rfl, Bel.alloc (Bel.refl _) _⟩
theorem parts_any (k i n : Int) (s : ByteArray) (hn : -1000000 ≤ n ∧ n ≤ 1000000) (w : World) :
    Calls Tryz.prog 68 #[.agg #[.int .i64 k, .int .i64 i, .string s, .int .i64 n]] w fun e w' => e = .returned (.int .i64 (partsC ⟨k, i, s.toList, n⟩)) ∧ w' = w.alloc (.cells #[.int .i64 k, .int .i64 i, .string s, .int .i64 n] 43) := by
  have hz := Lib.hid (show partsC ⟨k, i, s.toList, n⟩ = (if k = 6 then 2 * n else n) from rfl)
  generalize partsC ⟨k, i, s.toList, n⟩ = r at hz ⊢
  by_cases h6 : k = 6
  · subst h6
    have hz2 := Lib.hid (hz.out.trans rfl : r = 2 * n)
    clear hz
    go_enter Tryz.func68, Tryz.ntmps68
    go_wp2
    go_ret
    exact ⟨by rw [hz2.out]; rfl, rfl⟩
  · skip
    have hz2 := Lib.hid (hz.out.trans (if_neg h6) : r = n)
    clear hz
    go_enter Tryz.func68, Tryz.ntmps68
    go_wp2
    go_ret
    exact ⟨by rw [hz2.out]; rfl, rfl⟩
set_option maxRecDepth 100000 in
theorem takes_any (lev ink part left k i n : Int) (key s : ByteArray) (w : World) :
    Calls Tryz.prog 67 #[.agg #[.int .i64 lev, .int .i64 ink, .int .i64 part, .int .i64 left, .string key], .agg #[.int .i64 k, .int .i64 i, .string s, .int .i64 n]] w fun e w' => e = .returned (.bool (takesG ⟨⟨lev, ink, part⟩, left, key.toList⟩ ⟨k, i, s.toList, n⟩)) ∧ Bel w w' := by
  have hz := Lib.hid (show takesG ⟨⟨lev, ink, part⟩, left, key.toList⟩ ⟨k, i, s.toList, n⟩ = (k == 4 && (part == 0 || decide (key.toList < s.toList))) from rfl)
  have hbl := bytesLess_eq key.toList s.toList
  generalize takesG ⟨⟨lev, ink, part⟩, left, key.toList⟩ ⟨k, i, s.toList, n⟩ = r at hz ⊢
  generalize decide (key.toList < s.toList) = d at hz hbl
  by_cases h4 : k = 4
  · subst h4
    by_cases hp : part = 0
    · subst hp
      have hz2 := Lib.hid (hz.out.trans rfl : r = true)
      clear hz
      go_enter Tryz.func67, Tryz.ntmps67
      go_wp2
      go_ret
      exact ⟨by rw [hz2.out]; rfl, Bel.alloc (Bel.alloc (Bel.refl _) _) _⟩
    · have hbp : (part == 0) = false := by simpa using hp
      have hz2 := Lib.hid (hz.out.trans (by rw [hbp]; rfl) : r = d)
      clear hz
      go_enter Tryz.func67, Tryz.ntmps67
      go_wp2
      go_ret
      exact ⟨by rw [hz2.out]; rfl, Bel.alloc (Bel.alloc (Bel.refl _) _) _⟩
  · have hz2 := Lib.hid (hz.out.trans (by rw [show (k == 4) = false from by simpa using h4]; rfl) : r = false)
    clear hz
    go_enter Tryz.func67, Tryz.ntmps67
    go_wp2
    go_ret
    exact ⟨by rw [hz2.out]; rfl, Bel.alloc (Bel.alloc (Bel.refl _) _) _⟩
theorem str_emp (s : ByteArray) : (s.toList == (⟨#[]⟩ : ByteArray).toList) = (s.toList == []) := by rw [emp_list]
theorem prop1 (i n : Int) (s : Txt) : properC ⟨1, i, s, n⟩ = (i == 0 && (s == [] && n == 0)) := by
  by_cases h1 : i = 0 <;> by_cases h2 : s = [] <;> by_cases h3 : n = 0 <;> simp [properC, rd1, headC, h1, h2, h3]
theorem prop2 (i n : Int) (s : Txt) : properC ⟨2, i, s, n⟩ = ((s == [] && n == 0) && (i == 0 || i == 1)) := by
  by_cases h1 : i = 0 <;> by_cases h0 : i = 1 <;> by_cases h2 : s = [] <;> by_cases h3 : n = 0 <;> simp [properC, rd1, headC, h1, h2, h3, h0]
theorem prop3 (i n : Int) (s : Txt) : properC ⟨3, i, s, n⟩ = (s == [] && n == 0) := by
  by_cases h2 : s = [] <;> by_cases h3 : n = 0 <;> simp [properC, rd1, headC, h2, h3]
theorem prop4 (i n : Int) (s : Txt) : properC ⟨4, i, s, n⟩ = ((i == 0 && n == 0) && plain s) := by
  by_cases h1 : i = 0 <;> by_cases h3 : n = 0 <;> cases h2 : plain s <;> simp [properC, rd1, headC, keyC, h1, h2, h3]
theorem prop5 (k i n : Int) (s : Txt) (h : k = 5 ∨ k = 6) : properC ⟨k, i, s, n⟩ = ((i == 0 && s == []) && decide (0 ≤ n)) := by
  rcases h with rfl | rfl <;> by_cases h1 : i = 0 <;> by_cases h2 : s = [] <;> by_cases h3 : 0 ≤ n <;> simp [properC, rd1, headC, h1, h2, h3]
theorem prop_no {k : Int} (h1 : k ≠ 1) (h2 : k ≠ 2) (h3 : k ≠ 3) (h4 : k ≠ 4) (h5 : k ≠ 5) (h6 : k ≠ 6) (i n : Int) (s : Txt) : properC ⟨k, i, s, n⟩ = false := by
  simp [properC, rd1, headC, h1, h2, h3, h4, h5, h6]
theorem self_i (i : Int) : (i == i) = true := beq_self_eq_true i
theorem self_t (s : Txt) : (s == s) = true := beq_self_eq_true s
set_option maxRecDepth 100000 in
set_option maxHeartbeats 1000000 in
theorem isProper_any (k i n : Int) (s : ByteArray) (hs : s.size ≤ maxLen) (w : World) :
    Calls Tryz.prog 65 #[.agg #[.int .i64 k, .int .i64 i, .string s, .int .i64 n]] w fun e w' => e = .returned (.bool (properC ⟨k, i, s.toList, n⟩)) ∧ Bel w w' := by
  have HP := Lib.hid (isPlain_any s hs)

  by_cases h1 : k = 1
  · subst h1
    have heq := eq_cell 1 1 i 0 s ⟨#[]⟩ n 0
    simp only [self_i, str_emp, Bool.true_and] at heq
    have hz := prop1 i n s.toList
    generalize (i == 0 && (s.toList == [] && n == 0)) = B at hz heq
    generalize properC ⟨1, i, s.toList, n⟩ = r at hz ⊢
    have Hz := Lib.hid hz
    clear hz
    cases B
    all_goals
      clear HP
      go_enter Tryz.func65, Tryz.ntmps65
      go_wp2
      go_ret
      exact ⟨by rw [Hz.out]; rfl, Bel.alloc (Bel.refl _) _⟩
  · skip
    by_cases h2 : k = 2
    · subst h2
      have heq := eq_cell 2 2 i i s ⟨#[]⟩ n 0
      simp only [self_i, str_emp, Bool.true_and] at heq
      have hz := prop2 i n s.toList
      generalize (s.toList == [] && n == 0) = B at hz heq
      generalize properC ⟨2, i, s.toList, n⟩ = r at hz ⊢
      have Hz := Lib.hid hz
      clear hz
      by_cases hi0 : i = 0
      · subst hi0
        have Hz2 := Lib.hid (Hz.out.trans (Bool.and_true _))
        cases B
        all_goals
          clear HP Hz
          go_enter Tryz.func65, Tryz.ntmps65
          go_wp2
          go_ret
          exact ⟨by rw [Hz2.out]; rfl, Bel.alloc (Bel.refl _) _⟩
      · have hb0 : (i == 0) = false := by simpa using hi0
        by_cases hi1 : i = 1
        · subst hi1
          have Hz2 := Lib.hid (Hz.out.trans (Bool.and_true _))
          cases B
          all_goals
            clear HP Hz
            go_enter Tryz.func65, Tryz.ntmps65
            go_wp2
            go_ret
            exact ⟨by rw [Hz2.out]; rfl, Bel.alloc (Bel.refl _) _⟩
        · have hb1 : (i == 1) = false := by simpa using hi1
          have Hz2 := Lib.hid (Hz.out.trans (by rw [hb0, hb1]; exact Bool.and_false _) : r = false)
          cases B
          all_goals
            clear HP Hz
            go_enter Tryz.func65, Tryz.ntmps65
            go_wp2
            go_ret
            exact ⟨by rw [Hz2.out]; rfl, Bel.alloc (Bel.refl _) _⟩
    · skip
      by_cases h3 : k = 3
      · subst h3
        have heq := eq_cell 3 3 i i s ⟨#[]⟩ n 0
        simp only [self_i, str_emp, Bool.true_and] at heq
        have hz := prop3 i n s.toList
        generalize (s.toList == [] && n == 0) = B at hz heq
        generalize properC ⟨3, i, s.toList, n⟩ = r at hz ⊢
        have Hz := Lib.hid hz
        clear hz
        cases B
        all_goals
          clear HP
          go_enter Tryz.func65, Tryz.ntmps65
          go_wp2
          go_ret
          exact ⟨by rw [Hz.out]; rfl, Bel.alloc (Bel.refl _) _⟩
      · skip
        by_cases h4 : k = 4
        · subst h4
          have heq := eq_cell 4 4 i 0 s s n 0
          simp only [self_i, self_t, Bool.true_and] at heq
          have hz := prop4 i n s.toList
          generalize (i == 0 && n == 0) = B at hz heq
          generalize plain s.toList = pb at hz HP
          generalize properC ⟨4, i, s.toList, n⟩ = r at hz ⊢
          have Hz := Lib.hid hz
          clear hz
          cases B
          · have Hz2 := Lib.hid (Hz.out.trans rfl : r = false)
            clear HP Hz
            go_enter Tryz.func65, Tryz.ntmps65
            go_wp2
            go_ret
            exact ⟨by rw [Hz2.out]; rfl, Bel.alloc (Bel.refl _) _⟩
          · have Hz2 := Lib.hid (Hz.out.trans (Bool.true_and _))
            clear Hz
            go_enter Tryz.func65, Tryz.ntmps65
            go_wp2_with (go_at_call 86; ((with_reducible refine (HP.out _).mono ?_); rintro e w' ⟨rfl, rfl⟩))
            go_ret
            exact ⟨by rw [Hz2.out]; rfl, Bel.alloc (Bel.refl _) _⟩
        · skip
          by_cases h5 : k = 5
          · subst h5
            have heq := eq_cell 5 5 i 0 s ⟨#[]⟩ n n
            simp only [self_i, str_emp, Bool.true_and, Bool.and_true] at heq
            have hz := prop5 5 i n s.toList (Or.inl rfl)
            generalize (i == 0 && s.toList == []) = B at hz heq
            generalize properC ⟨5, i, s.toList, n⟩ = r at hz ⊢
            have Hz := Lib.hid hz
            clear hz
            by_cases hn0 : 0 ≤ n
            · have Hz2 := Lib.hid (Hz.out.trans (by simp [hn0]) : r = B)
              cases B
              all_goals
                clear HP Hz
                go_enter Tryz.func65, Tryz.ntmps65
                go_wp2
                go_ret
                exact ⟨by rw [Hz2.out]; rfl, Bel.alloc (Bel.refl _) _⟩
            · have Hz2 := Lib.hid (Hz.out.trans (by simp [hn0]) : r = false)
              cases B
              all_goals
                clear HP Hz
                go_enter Tryz.func65, Tryz.ntmps65
                go_wp2
                go_ret
                exact ⟨by rw [Hz2.out]; rfl, Bel.alloc (Bel.refl _) _⟩
          · skip
            by_cases h6 : k = 6
            · subst h6
              have heq := eq_cell 6 6 i 0 s ⟨#[]⟩ n n
              simp only [self_i, str_emp, Bool.true_and, Bool.and_true] at heq
              have hz := prop5 6 i n s.toList (Or.inr rfl)
              generalize (i == 0 && s.toList == []) = B at hz heq
              generalize properC ⟨6, i, s.toList, n⟩ = r at hz ⊢
              have Hz := Lib.hid hz
              clear hz
              by_cases hn0 : 0 ≤ n
              · have Hz2 := Lib.hid (Hz.out.trans (by simp [hn0]) : r = B)
                cases B
                all_goals
                  clear HP Hz
                  go_enter Tryz.func65, Tryz.ntmps65
                  go_wp2
                  go_ret
                  exact ⟨by rw [Hz2.out]; rfl, Bel.alloc (Bel.refl _) _⟩
              · have Hz2 := Lib.hid (Hz.out.trans (by simp [hn0]) : r = false)
                cases B
                all_goals
                  clear HP Hz
                  go_enter Tryz.func65, Tryz.ntmps65
                  go_wp2
                  go_ret
                  exact ⟨by rw [Hz2.out]; rfl, Bel.alloc (Bel.refl _) _⟩
            · skip
              have Hz := Lib.hid (prop_no h1 h2 h3 h4 h5 h6 i n s.toList)
              clear HP
              go_enter Tryz.func65, Tryz.ntmps65
              go_wp2
              go_ret
              exact ⟨by rw [Hz.out]; rfl, Bel.alloc (Bel.refl _) _⟩
end Val
end Go.Proofs.YtegfcmnbljdcpaaGreatDoor

/-
  Plain: the reading of texts of values, whatever reads the integers. No program.
-/
namespace Go.Proofs.YtegfcmnbljdcpaaGreatDoor
namespace Val
open Go.Lib (itoa decDigits)

mutual
def mapV (f : Int → Int) : V → V
  | .null => .null
  | .bool b => .bool b
  | .int n => .int (f n)
  | .str s => .str s
  | .list l => .list (mapVL f l)
  | .map m => .map (mapVM f m)
def mapVL (f : Int → Int) : L → L
  | .nil => .nil
  | .cons v r => .cons (mapV f v) (mapVL f r)
def mapVM (f : Int → Int) : M → M
  | .nil => .nil
  | .cons k v r => .cons k (mapV f v) (mapVM f r)
end
def rdG (J : Txt → Option (Int × Txt)) : Nat → Txt → Option (V × Txt)
  | 0, _ => none
  | f + 1, l => match rdW l with
    | some x => some x
    | none => match l with
      | [] => none
      | c :: r =>
        if c = 34 then match rdS r with
          | none => none
          | some (s, t) => some (.str s, t)
        else if c = 91 then (match r with
          | [] => none
          | d :: r' => if d = 93 then some (.list .nil, r') else match rdTL (rdG J f) f r with
            | none => none
            | some (t, q) => some (.list t, q))
        else if c = 123 then (match r with
          | [] => none
          | d :: r' => if d = 125 then some (.map .nil, r') else match rdTM (rdG J f) f r with
            | none => none
            | some (t, q) => some (.map t, q))
        else match J l with
          | none => none
          | some (n, q) => some (.int n, q)
theorem rdTL_snd {f : Int → Int} {g : Txt → Option (V × Txt)} (hg : ∀ {l v r}, g l = some (v, r) → ∃ u, v = mapV f u ∧ l = text u ++ r) : ∀ {n l t q}, rdTL g n l = some (t, q) → ∃ u, t = mapVL f u ∧ u ≠ .nil ∧ l = textL u ++ 93 :: q
  | 0, l, t, q, h => by cases h
  | n + 1, l, t, q, h => by
    rw [rdTL] at h
    cases h1 : g l with
    | none => rw [h1] at h; cases h
    | some x =>
      obtain ⟨v, r⟩ := x
      rw [h1] at h
      obtain ⟨u, rfl, e1⟩ := hg h1
      cases r with
      | nil => cases h
      | cons d r =>
        simp only at h
        split at h
        · rename_i hd
          subst hd
          cases h2 : rdTL g n r with
          | none => rw [h2] at h; cases h
          | some y =>
            obtain ⟨t', q'⟩ := y
            rw [h2] at h
            cases h
            obtain ⟨u', rfl, a1, a2⟩ := rdTL_snd hg h2
            refine ⟨.cons u u', rfl, by simp, ?_⟩
            rw [textL, more_eq a1, e1, a2]
            simp
        · split at h
          · rename_i hd
            subst hd
            cases h
            refine ⟨.cons u .nil, rfl, by simp, ?_⟩
            rw [textL, e1, moreL]
            simp
          · cases h
theorem rdTM_snd {f : Int → Int} {g : Txt → Option (V × Txt)} (hg : ∀ {l v r}, g l = some (v, r) → ∃ u, v = mapV f u ∧ l = text u ++ r) : ∀ {n l t q}, rdTM g n l = some (t, q) → ∃ u, t = mapVM f u ∧ u ≠ .nil ∧ l = textM u ++ 125 :: q
  | 0, l, t, q, h => by cases h
  | n + 1, l, t, q, h => by
    rw [rdTM] at h
    cases h0 : rdK l with
    | none => rw [h0] at h; cases h
    | some x0 =>
      obtain ⟨k, r0⟩ := x0
      rw [h0] at h
      have e0 := rdK_sound h0
      simp only at h
      cases h1 : g r0 with
      | none => rw [h1] at h; cases h
      | some x =>
        obtain ⟨v, r⟩ := x
        rw [h1] at h
        obtain ⟨u, rfl, e1⟩ := hg h1
        cases r with
        | nil => cases h
        | cons d r =>
          simp only at h
          split at h
          · rename_i hd
            subst hd
            cases h2 : rdTM g n r with
            | none => rw [h2] at h; cases h
            | some y =>
              obtain ⟨t', q'⟩ := y
              rw [h2] at h
              cases h
              obtain ⟨u', rfl, a1, a2⟩ := rdTM_snd hg h2
              refine ⟨.cons k u u', rfl, by simp, ?_⟩
              rw [textM, moreM_eq a1, e0, e1, a2]
              simp
          · split at h
            · rename_i hd
              subst hd
              cases h
              refine ⟨.cons k u .nil, rfl, by simp, ?_⟩
              rw [textM, e0, e1, moreM]
              simp
            · cases h
def Snd (J : Txt → Option (Int × Txt)) (f : Int → Int) : Prop := ∀ {l : Txt} {m : Int} {r : Txt}, J l = some (m, r) → ∃ n, m = f n ∧ l = itoa n ++ r
theorem rdG_snd {J : Txt → Option (Int × Txt)} {f : Int → Int} (hJ : Snd J f) : ∀ {k l v r}, rdG J k l = some (v, r) → ∃ u, v = mapV f u ∧ l = text u ++ r
  | 0, l, v, r, h => by cases h
  | k + 1, l, v, r, h => by
    rw [rdG.eq_def] at h
    simp only at h
    cases hw : rdW l with
    | some x =>
      rw [hw] at h
      cases h
      have hs := rdW_sound hw
      unfold rdW at hw
      split at hw
      · cases hw; exact ⟨.null, rfl, hs⟩
      · split at hw
        · cases hw; exact ⟨.bool true, rfl, hs⟩
        · split at hw
          · cases hw; exact ⟨.bool false, rfl, hs⟩
          · cases hw
    | none =>
      rw [hw] at h
      simp only at h
      cases l with
      | nil => cases h
      | cons c l =>
        simp only at h
        split at h
        · rename_i hc
          subst hc
          cases h1 : rdS l with
          | none => rw [h1] at h; cases h
          | some x =>
            obtain ⟨s, t⟩ := x
            rw [h1] at h
            cases h
            refine ⟨.str s, rfl, ?_⟩
            rw [rdS_sound h1]
            simp [text, quo]
        · split at h
          · rename_i hc
            subst hc
            cases l with
            | nil => cases h
            | cons d l =>
              simp only at h
              split at h
              · rename_i hd
                subst hd
                cases h
                exact ⟨.list .nil, rfl, by simp [text, textL]⟩
              · cases h1 : rdTL (rdG J k) k (d :: l) with
                | none => rw [h1] at h; cases h
                | some x =>
                  obtain ⟨t, q⟩ := x
                  rw [h1] at h
                  cases h
                  obtain ⟨u, rfl, _, a2⟩ := rdTL_snd (fun h => rdG_snd hJ h) h1
                  refine ⟨.list u, rfl, ?_⟩
                  rw [a2]
                  simp [text]
          · split at h
            · rename_i hc
              subst hc
              cases l with
              | nil => cases h
              | cons d l =>
                simp only at h
                split at h
                · rename_i hd
                  subst hd
                  cases h
                  exact ⟨.map .nil, rfl, by simp [text, textM]⟩
                · cases h1 : rdTM (rdG J k) k (d :: l) with
                  | none => rw [h1] at h; cases h
                  | some x =>
                    obtain ⟨t, q⟩ := x
                    rw [h1] at h
                    cases h
                    obtain ⟨u, rfl, _, a2⟩ := rdTM_snd (fun h => rdG_snd hJ h) h1
                    refine ⟨.map u, rfl, ?_⟩
                    rw [a2]
                    simp [text]
            · cases h1 : J (c :: l) with
              | none => rw [h1] at h; cases h
              | some x =>
                obtain ⟨n, q⟩ := x
                rw [h1] at h
                cases h
                obtain ⟨m, rfl, e⟩ := hJ h1
                exact ⟨.int m, rfl, e⟩
theorem rdG_s (J : Txt → Option (Int × Txt)) (f : Nat) (r q : Txt) (s : Txt) (h : rdS r = some (s, q)) : rdG J (f + 1) (34 :: r) = some (.str s, q) := by
  rw [rdG.eq_def]
  simp only
  rw [rdW_none (by decide)]
  simp only [if_true]
  rw [h]
theorem rdG_l0 (J : Txt → Option (Int × Txt)) (f : Nat) (r : Txt) : rdG J (f + 1) (91 :: 93 :: r) = some (.list .nil, r) := by
  rw [rdG.eq_def]
  simp only
  rw [rdW_none (by decide)]
  rfl
theorem rdG_l1 (J : Txt → Option (Int × Txt)) (f : Nat) (c : UInt8) (r q : Txt) (t : L) (hc : c ≠ 93) (h : rdTL (rdG J f) f (c :: r) = some (t, q)) : rdG J (f + 1) (91 :: c :: r) = some (.list t, q) := by
  rw [rdG.eq_def]
  simp only
  rw [rdW_none (by decide)]
  simp only
  rw [if_neg (by decide), if_pos trivial, if_neg hc, h]
theorem rdG_m0 (J : Txt → Option (Int × Txt)) (f : Nat) (r : Txt) : rdG J (f + 1) (123 :: 125 :: r) = some (.map .nil, r) := by
  rw [rdG.eq_def]
  simp only
  rw [rdW_none (by decide)]
  rfl
theorem rdG_m1 (J : Txt → Option (Int × Txt)) (f : Nat) (c : UInt8) (r q : Txt) (t : M) (hc : c ≠ 125) (h : rdTM (rdG J f) f (c :: r) = some (t, q)) : rdG J (f + 1) (123 :: c :: r) = some (.map t, q) := by
  rw [rdG.eq_def]
  simp only
  rw [rdW_none (by decide)]
  simp only
  rw [if_neg (by decide), if_neg (by decide), if_pos trivial, if_neg hc, h]
theorem rdG_i (J : Txt → Option (Int × Txt)) (f : Nat) (c : UInt8) (r q : Txt) (n : Int) (hc : isD c = true ∨ c = 45) (h : J (c :: r) = some (n, q)) : rdG J (f + 1) (c :: r) = some (.int n, q) := by
  have hd := d_ne hc
  rw [rdG.eq_def]
  simp only
  rw [rdW_none ⟨hd.1, hd.2.1, hd.2.2.1⟩]
  simp only
  rw [if_neg hd.2.2.2.1, if_neg hd.2.2.2.2.1, if_neg hd.2.2.2.2.2.1, h]
/-- Does a text begin with a digit or a sign? -/
def begX : Txt → Bool
  | [] => false
  | c :: _ => isD c || c == 45
def Ful (J : Txt → Option (Int × Txt)) (f : Int → Int) : Prop := ∀ (n : Int) (r : Txt), begX r = false → J (itoa n ++ r) = some (f n, r)
mutual
theorem rdG_full {J : Txt → Option (Int × Txt)} {g : Int → Int} (hJ : Ful J g) : ∀ (v : V) (f : Nat) (r : Txt), begX r = false → (text v).length ≤ f → rdG J f (text v ++ r) = some (mapV g v, r)
  | .null, f, r, _, h => by cases f with
    | zero => simp [text] at h
    | succ f => rfl
  | .bool b, f, r, _, h => by cases f with
    | zero => cases b <;> simp [text] at h
    | succ f => cases b <;> rfl
  | .int n, f, r, hr, h => by cases f with
    | zero => have := text_pos (.int n); omega
    | succ f =>
      obtain ⟨c, t, hc, hcd⟩ := itoa_cons n
      have hI := hJ n r hr
      rw [text]
      rw [hc, List.cons_append] at hI ⊢
      exact rdG_i J f c _ _ _ hcd hI
  | .str s, f, r, _, h => by cases f with
    | zero => have := text_pos (.str s); omega
    | succ f =>
      have e : text (.str s) ++ r = 34 :: (esc s ++ 34 :: r) := by simp [text, quo]
      rw [e]
      exact rdG_s J f _ _ s (rdS_esc s r)
  | .list .nil, f, r, _, h => by cases f with
    | zero => have := text_pos (.list .nil); omega
    | succ f => exact rdG_l0 J f r
  | .list (.cons v t), f, r, _, h => by cases f with
    | zero => have := text_pos (.list (.cons v t)); omega
    | succ f =>
      have e : text (.list (.cons v t)) ++ r = 91 :: (textL (.cons v t) ++ 93 :: r) := by simp [text]
      rw [text, List.length_cons, List.length_append] at h
      have hf := rdGL_full hJ (.cons v t) f f r (by simp) (by simp at h; omega) (by simp at h; omega)
      obtain ⟨c, w, hc, hne⟩ := text_head v
      have e2 : textL (.cons v t) ++ 93 :: r = c :: (w ++ (moreL t ++ 93 :: r)) := by rw [textL, hc]; simp
      rw [e, e2]
      rw [e2] at hf
      exact rdG_l1 J f c _ _ _ hne hf
  | .map .nil, f, r, _, h => by cases f with
    | zero => have := text_pos (.map .nil); omega
    | succ f => exact rdG_m0 J f r
  | .map (.cons k v t), f, r, _, h => by cases f with
    | zero => have := text_pos (.map (.cons k v t)); omega
    | succ f =>
      have e : text (.map (.cons k v t)) ++ r = 123 :: (textM (.cons k v t) ++ 125 :: r) := by simp [text]
      rw [text, List.length_cons, List.length_append] at h
      have hf := rdGM_full hJ (.cons k v t) f f r (by simp) (by simp at h; omega) (by simp at h; omega)
      have e2 : textM (.cons k v t) ++ 125 :: r = 34 :: (esc k ++ [34] ++ 58 :: (text v ++ moreM t) ++ 125 :: r) := by rw [textM, quo]; simp
      rw [e, e2]
      rw [e2] at hf
      exact rdG_m1 J f 34 _ _ _ (by decide) hf
theorem rdGL_full {J : Txt → Option (Int × Txt)} {g : Int → Int} (hJ : Ful J g) : ∀ (l : L) (f n : Nat) (r : Txt), l ≠ .nil → (textL l).length ≤ f → (textL l).length ≤ n → rdTL (rdG J f) n (textL l ++ 93 :: r) = some (mapVL g l, r)
  | .nil, f, n, r, h, _, _ => absurd rfl h
  | .cons v t, f, n, r, _, h, hn => by
    have hv := text_pos v
    rw [textL, List.length_append] at h hn
    cases n with
    | zero => omega
    | succ n =>
      rw [rdTL, textL, List.append_assoc]
      cases t with
      | nil =>
        rw [rdG_full hJ v f _ (by rfl) (by omega)]
        simp [moreL, mapVL]
      | cons v2 t2 =>
        have hm : moreL (.cons v2 t2) = 44 :: textL (.cons v2 t2) := rfl
        rw [hm, List.length_cons] at h hn
        rw [hm, List.cons_append, rdG_full hJ v f _ (by rfl) (by omega)]
        simp only [if_true]
        rw [rdGL_full hJ (.cons v2 t2) f n r (by simp) (by omega) (by omega)]
        rfl
theorem rdGM_full {J : Txt → Option (Int × Txt)} {g : Int → Int} (hJ : Ful J g) : ∀ (l : M) (f n : Nat) (r : Txt), l ≠ .nil → (textM l).length ≤ f → (textM l).length ≤ n → rdTM (rdG J f) n (textM l ++ 125 :: r) = some (mapVM g l, r)
  | .nil, f, n, r, h, _, _ => absurd rfl h
  | .cons k v t, f, n, r, _, h, hn => by
    have hv := text_pos v
    rw [textM, List.length_append, List.length_cons, List.length_append] at h hn
    cases n with
    | zero => omega
    | succ n =>
      rw [rdTM, textM, List.append_assoc, List.cons_append, rdK_full]
      simp only
      rw [List.append_assoc]
      cases t with
      | nil =>
        rw [rdG_full hJ v f _ (by rfl) (by omega)]
        simp [moreM, mapVM]
      | cons k2 v2 t2 =>
        have hm : moreM (.cons k2 v2 t2) = 44 :: textM (.cons k2 v2 t2) := rfl
        rw [hm, List.length_cons] at h hn
        rw [hm, List.cons_append, rdG_full hJ v f _ (by rfl) (by omega)]
        simp only [if_true]
        rw [rdGM_full hJ (.cons k2 v2 t2) f n r (by simp) (by omega) (by omega)]
        rfl
end
/-- The value of a text, as it is read. -/
def valG (J : Txt → Option (Int × Txt)) (s : Txt) : Option V := match rdG J s.length s with
  | some (v, []) => some v
  | _ => none
theorem valG_eq {J : Txt → Option (Int × Txt)} {f : Int → Int} (hS : Snd J f) (hF : Ful J f) (s : Txt) : valG J s = (val s).map (mapV f) := by
  cases h : val s with
  | some v =>
    obtain rfl := val_some.1 h
    unfold valG
    have := rdG_full hF v (text v).length [] rfl (Nat.le_refl _)
    rw [List.append_nil] at this
    rw [this]
    rfl
  | none =>
    cases h2 : valG J s with
    | none => rfl
    | some v =>
      unfold valG at h2
      split at h2
      · rename_i h3
        cases h2
        obtain ⟨u, rfl, e⟩ := rdG_snd hS h3
        rw [List.append_nil] at e
        rw [val_some.2 e] at h
        cases h
      · cases h2
/-- What is read of a text does not grow. -/
theorem rdG_lt {J : Txt → Option (Int × Txt)} {f : Int → Int} (hS : Snd J f) {k : Nat} {l r : Txt} {v : V} (h : rdG J k l = some (v, r)) : r.length < l.length := by
  obtain ⟨u, _, e⟩ := rdG_snd hS h
  have := text_pos u
  rw [e, List.length_append]
  omega
mutual
theorem flat_text : ∀ v : V, (flat v).length ≤ (text v).length
  | .null => by simp [flat, text]
  | .bool b => by cases b <;> simp [flat, text]
  | .int n => by have := text_pos (.int n); simp only [flat, List.length_cons, List.length_nil]; omega
  | .str s => by have := text_pos (.str s); simp only [flat, List.length_cons, List.length_nil]; omega
  | .list l => by
    have := flat_textL l
    simp only [flat, text, List.length_cons, List.length_append, List.length_nil]
    have h : (textL l).length + 1 ≥ (moreL l).length := by cases l <;> simp [textL, moreL]
    omega
  | .map m => by
    have := flat_textM m
    simp only [flat, text, List.length_cons, List.length_append, List.length_nil]
    have h : (textM m).length + 1 ≥ (moreM m).length := by cases m <;> simp [textM, moreM]
    omega
theorem flat_textL : ∀ l : L, (flatL l).length ≤ (moreL l).length
  | .nil => Nat.zero_le _
  | .cons v r => by
    have := flat_text v
    have := flat_textL r
    simp only [flatL, moreL, List.length_cons, List.length_append]
    omega
theorem flat_textM : ∀ l : M, (flatM l).length ≤ (moreM l).length
  | .nil => Nat.zero_le _
  | .cons k v r => by
    have := flat_text v
    have := flat_textM r
    simp only [flatM, moreM, quo, List.length_cons, List.length_append]
    omega
end
mutual
theorem map_len (f : Int → Int) : ∀ v : V, (flat (mapV f v)).length = (flat v).length
  | .null => rfl
  | .bool _ => rfl
  | .int _ => rfl
  | .str _ => rfl
  | .list l => by rw [mapV, flat, flat, List.length_cons, List.length_cons, map_lenL f l]
  | .map m => by rw [mapV, flat, flat, List.length_cons, List.length_cons, map_lenM f m]
theorem map_lenL (f : Int → Int) : ∀ l : L, (flatL (mapVL f l)).length = (flatL l).length
  | .nil => rfl
  | .cons v r => by rw [mapVL, flatL, flatL, List.length_append, List.length_append, map_len f v, map_lenL f r]
theorem map_lenM (f : Int → Int) : ∀ l : M, (flatM (mapVM f l)).length = (flatM l).length
  | .nil => rfl
  | .cons k v r => by rw [mapVM, flatM, flatM, List.length_cons, List.length_cons, List.length_append, List.length_append, map_len f v, map_lenM f r]
end
mutual
theorem map_wf (f : Int → Int) : ∀ v : V, wf (mapV f v) = wf v
  | .null => rfl
  | .bool _ => rfl
  | .int _ => rfl
  | .str _ => rfl
  | .list l => by rw [mapV, wf, wf, map_wfL f l]
  | .map m => by rw [mapV, wf, wf, map_wfM f m]
theorem map_wfL (f : Int → Int) : ∀ l : L, wfL (mapVL f l) = wfL l
  | .nil => rfl
  | .cons v r => by rw [mapVL, wfL, wfL, map_wf f v, map_wfL f r]
theorem map_wfM (f : Int → Int) : ∀ (l : M) (q : Option Txt), wfM q (mapVM f l) = wfM q l
  | .nil, _ => rfl
  | .cons k v r, q => by rw [mapVM, wfM, wfM, map_wf f v, map_wfM f r]
end
mutual
theorem map_lvl (f : Int → Int) : ∀ v : V, lvl (mapV f v) = lvl v
  | .null => rfl
  | .bool _ => rfl
  | .int _ => rfl
  | .str _ => rfl
  | .list l => by rw [mapV, lvl, lvl, map_lvlL f l]
  | .map m => by rw [mapV, lvl, lvl, map_lvlM f m]
theorem map_lvlL (f : Int → Int) : ∀ l : L, lvlL (mapVL f l) = lvlL l
  | .nil => rfl
  | .cons v r => by rw [mapVL, lvlL, lvlL, map_lvl f v, map_lvlL f r]
theorem map_lvlM (f : Int → Int) : ∀ l : M, lvlM (mapVM f l) = lvlM l
  | .nil => rfl
  | .cons k v r => by rw [mapVM, lvlM, lvlM, map_lvl f v, map_lvlM f r]
end
/-- Integers that are valid are kept, others stay invalid. -/
def Keeps (f : Int → Int) : Prop := ∀ n, (validI n = true → f n = n) ∧ (validI n = false → validI (f n) = false)
theorem keeps_rng {f : Int → Int} (h : Keeps f) (n : Int) : rngC ⟨3, f n, [], 0⟩ = rngC ⟨3, n, [], 0⟩ := by
  rw [valid3, valid3]
  cases hv : validI n with
  | true => rw [(h n).1 hv, hv]
  | false => exact (h n).2 hv
mutual
theorem map_rng {f : Int → Int} (h : Keeps f) : ∀ v : V, (flat (mapV f v)).all rngC = (flat v).all rngC
  | .null => rfl
  | .bool _ => rfl
  | .int n => by
    rw [mapV, flat, flat, List.all_cons, List.all_cons, keeps_rng h]
  | .str _ => rfl
  | .list l => by
    rw [mapV, flat, flat, List.all_cons, List.all_cons, map_rngL h l]
    rfl
  | .map m => by
    rw [mapV, flat, flat, List.all_cons, List.all_cons, map_rngM h m]
    rfl
theorem map_rngL {f : Int → Int} (h : Keeps f) : ∀ l : L, (flatL (mapVL f l)).all rngC = (flatL l).all rngC
  | .nil => rfl
  | .cons v r => by rw [mapVL, flatL, flatL, List.all_append, List.all_append, map_rng h v, map_rngL h r]
theorem map_rngM {f : Int → Int} (h : Keeps f) : ∀ l : M, (flatM (mapVM f l)).all rngC = (flatM l).all rngC
  | .nil => rfl
  | .cons k v r => by rw [mapVM, flatM, flatM, List.all_cons, List.all_cons, List.all_append, List.all_append, map_rng h v, map_rngM h r]
end
mutual
theorem map_same {f : Int → Int} (h : Keeps f) : ∀ v : V, (flat v).all rngC = true → mapV f v = v
  | .null, _ => rfl
  | .bool _, _ => rfl
  | .int n, hv => by
    rw [flat, List.all_cons, Bool.and_eq_true, valid3] at hv
    rw [mapV, (h n).1 hv.1]
  | .str _, _ => rfl
  | .list l, hv => by
    rw [flat, List.all_cons, Bool.and_eq_true] at hv
    rw [mapV, map_sameL h l hv.2]
  | .map m, hv => by
    rw [flat, List.all_cons, Bool.and_eq_true] at hv
    rw [mapV, map_sameM h m hv.2]
theorem map_sameL {f : Int → Int} (h : Keeps f) : ∀ l : L, (flatL l).all rngC = true → mapVL f l = l
  | .nil, _ => rfl
  | .cons v r, hv => by
    rw [flatL, List.all_append, Bool.and_eq_true] at hv
    rw [mapVL, map_same h v hv.1, map_sameL h r hv.2]
theorem map_sameM {f : Int → Int} (h : Keeps f) : ∀ l : M, (flatM l).all rngC = true → mapVM f l = l
  | .nil, _ => rfl
  | .cons k v r, hv => by
    rw [flatM, List.all_cons, List.all_append, Bool.and_eq_true, Bool.and_eq_true] at hv
    rw [mapVM, map_same h v hv.2.1, map_sameM h r hv.2.2]
end
theorem chk_bad {v : V} (h : wf v = true) (hr : (flat v).all rngC = false) : chk (flat v) = 2 := by
  unfold chk
  rw [par_some.2 ⟨h, rfl⟩]
  exact chkT_no hr
mutual
theorem flat_det : ∀ (v u : V) (r q : List Cel), flat v ++ r = flat u ++ q → v = u ∧ r = q
  | .null, u, r, q, h => by cases u <;> simp [flat] at h <;> simp [h]
  | .bool b, u, r, q, h => by cases u <;> simp [flat] at h <;> (try (rename_i b'; cases b <;> cases b' <;> simp at h)) <;> simp [h]
  | .int n, u, r, q, h => by cases u <;> simp [flat] at h <;> simp [h]
  | .str s, u, r, q, h => by cases u <;> simp [flat] at h <;> simp [h]
  | .list l, u, r, q, h => by
    cases u with
    | list m =>
      rw [flat, flat, List.cons_append, List.cons_append, List.cons.injEq] at h
      obtain ⟨h1, h2⟩ := h
      simp only [Cel.mk.injEq, true_and] at h1
      obtain ⟨rfl, h3⟩ := flat_detL l m r q (by omega) h2
      exact ⟨rfl, h3⟩
    | _ => simp [flat] at h
  | .map l, u, r, q, h => by
    cases u with
    | map m =>
      rw [flat, flat, List.cons_append, List.cons_append, List.cons.injEq] at h
      obtain ⟨h1, h2⟩ := h
      simp only [Cel.mk.injEq, true_and] at h1
      obtain ⟨rfl, h3⟩ := flat_detM l m r q (by omega) h2
      exact ⟨rfl, h3⟩
    | _ => simp [flat] at h
theorem flat_detL : ∀ (l m : L) (r q : List Cel), lenL l = lenL m → flatL l ++ r = flatL m ++ q → l = m ∧ r = q
  | .nil, .nil, r, q, _, h => ⟨rfl, h⟩
  | .nil, .cons v t, r, q, hn, h => by simp [lenL] at hn
  | .cons v t, .nil, r, q, hn, h => by simp [lenL] at hn
  | .cons v t, .cons u w, r, q, hn, h => by
    rw [flatL, flatL, List.append_assoc, List.append_assoc] at h
    obtain ⟨rfl, h2⟩ := flat_det v u _ _ h
    obtain ⟨rfl, h3⟩ := flat_detL t w r q (by simpa [lenL] using hn) h2
    exact ⟨rfl, h3⟩
theorem flat_detM : ∀ (l m : M) (r q : List Cel), lenM l = lenM m → flatM l ++ r = flatM m ++ q → l = m ∧ r = q
  | .nil, .nil, r, q, _, h => ⟨rfl, h⟩
  | .nil, .cons k v t, r, q, hn, h => by simp [lenM] at hn
  | .cons k v t, .nil, r, q, hn, h => by simp [lenM] at hn
  | .cons k v t, .cons k' u w, r, q, hn, h => by
    rw [flatM, flatM, List.cons_append, List.cons_append, List.cons.injEq, List.append_assoc, List.append_assoc] at h
    obtain ⟨h1, h⟩ := h
    simp only [Cel.mk.injEq, true_and, and_true] at h1
    obtain ⟨rfl, h2⟩ := flat_det v u _ _ h
    obtain ⟨rfl, h3⟩ := flat_detM t w r q (by simpa [lenM] using hn) h2
    exact ⟨by rw [h1], h3⟩
end
theorem chk_nwf {v : V} (h : wf v = false) : chk (flat v) = 1 := by
  unfold chk
  cases hp : par (flat v) with
  | none => rfl
  | some u =>
    obtain ⟨h1, h2⟩ := par_some.1 hp
    obtain ⟨rfl, -⟩ := flat_det v u [] [] (by rw [List.append_nil, List.append_nil]; exact h2)
    rw [h1] at h
    cases h
/-- What checked says of cells. -/
def ckT (l : List Cel) : List Cel × Int := if chk l = 0 then (l, 0) else ([], chk l)
theorem ck_map {f : Int → Int} (h : Keeps f) (v : V) : ckT (flat (mapV f v)) = ckT (flat v) := by
  cases hw : wf v with
  | false =>
    unfold ckT
    rw [chk_nwf hw, chk_nwf (by rw [map_wf]; exact hw)]
    rfl
  | true =>
    cases hr : (flat v).all rngC with
    | true => rw [map_same h v hr]
    | false =>
      unfold ckT
      rw [chk_bad hw hr, chk_bad (by rw [map_wf]; exact hw) (by rw [map_rng h]; exact hr)]
      rfl
theorem keeps_clamp : Keeps clampI := by
  intro n
  unfold validI clampI
  constructor
  · intro h
    simp only [Bool.and_eq_true, decide_eq_true_eq] at h
    rw [if_pos (by omega)]
  · intro h
    simp only [Bool.and_eq_false_iff, decide_eq_false_iff_not] at h ⊢
    split
    · exact h
    · split <;> simp
/-- The integer that the program reads. -/
def clU (n : Int) : Int := if validI n then n else 1000000000001
theorem keeps_clU : Keeps clU := by
  intro n
  unfold clU
  constructor
  · intro h
    rw [if_pos h]
  · intro h
    rw [h]
    rfl
/-- What Decode says of a text. -/
def decT (s : Txt) : List Cel × Int := if 4000 < s.length then ([], 3) else match val s with
  | none => ([], 1)
  | some v => ckT (flat v)
theorem dec_long {s : Txt} (h : 4000 < s.length) : decT s = ([], 3) := if_pos h
theorem dec_none {J : Txt → Option (Int × Txt)} {f : Int → Int} (hS : Snd J f) (hF : Ful J f) {s : Txt} (h : ¬ 4000 < s.length) (hv : valG J s = none) : decT s = ([], 1) := by
  rw [valG_eq hS hF] at hv
  unfold decT
  rw [if_neg h]
  cases hx : val s with
  | none => rfl
  | some v => rw [hx] at hv; cases hv
theorem dec_some {J : Txt → Option (Int × Txt)} {f : Int → Int} (hS : Snd J f) (hF : Ful J f) (hK : Keeps f) {s : Txt} (h : ¬ 4000 < s.length) {v : V} (hv : valG J s = some v) : decT s = ckT (flat v) := by
  rw [valG_eq hS hF] at hv
  unfold decT
  rw [if_neg h]
  cases hx : val s with
  | none => rw [hx] at hv; cases hv
  | some u =>
    rw [hx] at hv
    cases hv
    exact (ck_map hK u).symm
end Val
end Go.Proofs.YtegfcmnbljdcpaaGreatDoor

/-
  Plain: the integers that the program reads. No program.
-/
namespace Go.Proofs.YtegfcmnbljdcpaaGreatDoor
namespace Val
open Go.Lib (itoa decDigits)
open Num (parE parV okL negL bodyL decB scan valF finE finV)

def tokC (c : UInt8) : Bool := isD c || c == 45
def intU (l : Txt) : Option (Int × Txt) :=
  if parE (l.takeWhile tokC) = 1 then none else some (if parE (l.takeWhile tokC) = 2 then 1000000000001 else parV (l.takeWhile tokC), l.dropWhile tokC)
theorem okD_decB {l : Txt} (h : okD l = true) : decB l = true := by
  unfold okD at h
  unfold decB
  rw [Num.isDig_isD]
  simp only [Bool.and_eq_true, Bool.or_eq_true, beq_iff_eq, Bool.not_eq_true', bne_iff_ne] at h ⊢
  exact ⟨h.1.1, h.2.elim Or.inl (fun e => Or.inr ⟨h.1.2, e⟩)⟩
theorem neg_cons (c : UInt8) (l : Txt) : negL (c :: l) = (c == 45) := by
  rw [negL, Num.prefix45]
theorem body_neg (l : Txt) : bodyL (45 :: l) = l := by
  have : Lib.hasPrefix (45 :: l) [45] = true := by have := neg_cons 45 l; exact this
  rw [bodyL, Lib.trimPrefix, this]
  rfl
theorem body_pos {l : Txt} (h : negL l = false) : bodyL l = l := by
  have : Lib.hasPrefix l [45] = false := h
  rw [bodyL, Lib.trimPrefix, this]
  rfl
theorem neg_dec (u : Nat) : negL (decDigits u) = false := by
  obtain ⟨c, t, h, hc⟩ := dec_cons u
  rw [h, neg_cons, beq_eq_false_iff_ne]
  rintro rfl
  exact absurd hc (by decide)
theorem dec_n48 {u : Nat} (h : 1 ≤ u) : (decDigits u == [48]) = false := by
  rw [beq_eq_false_iff_ne]
  intro e
  have := dec_head u h
  rw [e] at this
  exact this rfl
theorem scan_dec (u : Nat) : scan 0 (decDigits u) = if u ≤ 1000000000000 then some u else none := by
  have h : valF 0 (decDigits u) = u := by rw [Num.valF_valD]; exact dec_val u
  rw [Num.scan_eq _ _ (by decide), h]
/-- What Parse says of the form of any integer. -/
theorem par_itoa (n : Int) : parE (itoa n) = (if validI n then 0 else 2) ∧ (validI n = true → parV (itoa n) = n) := by
  unfold itoa
  by_cases hn : n < 0
  · rw [if_pos hn]
    obtain ⟨N, hN⟩ : ∃ N, n.natAbs = N := ⟨_, rfl⟩
    have hok : okL (45 :: decDigits N) = true := by
      rw [okL, body_neg, neg_cons, okD_decB (dec_ok N), dec_n48 (by omega)]
      rfl
    rw [hN, parE, parV, hok, body_neg, neg_cons, scan_dec]
    by_cases g : N ≤ 1000000000000
    · have hv : validI n = true := by unfold validI; simp; omega
      rw [hv, if_pos g]
      exact ⟨rfl, fun _ => by show -(N : Int) = n; omega⟩
    · have hv : validI n = false := by unfold validI; simp; omega
      rw [hv, if_neg g]
      exact ⟨rfl, fun h => by cases h⟩
  · rw [if_neg hn]
    obtain ⟨N, hN⟩ : ∃ N, n.toNat = N := ⟨_, rfl⟩
    have hok : okL (decDigits N) = true := by
      rw [okL, body_pos (neg_dec N), neg_dec, okD_decB (dec_ok N)]
      rfl
    rw [hN, parE, parV, hok, body_pos (neg_dec N), neg_dec, scan_dec]
    by_cases g : N ≤ 1000000000000
    · have hv : validI n = true := by unfold validI; simp; omega
      rw [hv, if_pos g]
      exact ⟨rfl, fun _ => by show (N : Int) = n; omega⟩
    · have hv : validI n = false := by unfold validI; simp; omega
      rw [hv, if_neg g]
      exact ⟨rfl, fun h => by cases h⟩
/-- What Parse does not refuse is the form of an integer. -/
theorem par_form {l : Txt} (h : parE l ≠ 1) : ∃ n, l = itoa n := by
  have hok : okL l = true := by
    cases hk : okL l with
    | true => rfl
    | false => exact absurd (by rw [parE, hk]; rfl) h
  rw [okL, Bool.and_eq_true] at hok
  have hd := dec_of_ok (Num.decB_okD hok.1)
  cases hn : negL l with
  | false =>
    rw [body_pos hn] at hd
    refine ⟨(valD l : Int), ?_⟩
    unfold itoa
    rw [if_neg (by omega), Int.toNat_natCast, hd]
  | true =>
    cases l with
    | nil => cases hn
    | cons c t =>
      rw [neg_cons, beq_iff_eq] at hn
      subst hn
      rw [body_neg] at hd
      have h48 : valD t ≠ 0 := by
        intro e
        rw [e] at hd
        have h2 := hok.2
        rw [body_neg, neg_cons, ← hd, dec_zero] at h2
        exact absurd h2 (by decide)
      refine ⟨-(valD t : Int), ?_⟩
      unfold itoa
      rw [if_pos (by omega)]
      have e : (-(valD t : Int)).natAbs = valD t := by omega
      rw [e, hd]
theorem tok_all (n : Int) : (itoa n).all tokC = true := by
  have h : ∀ u, (decDigits u).all tokC = true := fun u => by
    refine List.all_eq_true.2 fun x hx => ?_
    have := List.all_eq_true.1 (dec_all u) x hx
    unfold tokC
    rw [this]
    rfl
  unfold itoa
  split
  · rw [List.all_cons, h]
    rfl
  · exact h _
theorem tok_split {t r : Txt} (ht : t.all tokC = true) (hr : begX r = false) : (t ++ r).takeWhile tokC = t ∧ (t ++ r).dropWhile tokC = r := by
  induction t with
  | nil =>
    cases r with
    | nil => exact ⟨rfl, rfl⟩
    | cons c r =>
      have : tokC c = false := hr
      simp [this]
  | cons c t ih =>
    rw [List.all_cons, Bool.and_eq_true] at ht
    obtain ⟨h1, h2⟩ := ih ht.2
    simp [ht.1, h1, h2]
theorem intU_itoa {l r : Txt} {n : Int} (h1 : l.takeWhile tokC = itoa n) (h2 : l.dropWhile tokC = r) : intU l = some (clU n, r) := by
  obtain ⟨e1, e2⟩ := par_itoa n
  unfold intU clU
  rw [h1, h2, e1]
  cases hv : validI n with
  | true => simp [e2 hv]
  | false => simp
theorem ful_intU : Ful intU clU := fun n r hr => by
  obtain ⟨h1, h2⟩ := tok_split (tok_all n) hr
  exact intU_itoa h1 h2
theorem snd_intU : Snd intU clU := by
  intro l m r h
  by_cases hp : parE (l.takeWhile tokC) = 1
  · unfold intU at h
    rw [if_pos hp] at h
    cases h
  · obtain ⟨n, hn⟩ := par_form hp
    rw [intU_itoa hn rfl] at h
    simp only [Option.some.injEq, Prod.mk.injEq] at h
    refine ⟨n, h.1.symm, ?_⟩
    rw [← hn, ← h.2, List.takeWhile_append_dropWhile]
theorem ful_intR : Ful intR clampI := fun n r hr => by
  have hd : begD r = false := by
    cases r with
    | nil => rfl
    | cons c r =>
      have : (isD c || c == 45) = false := hr
      rw [Bool.or_eq_false_iff] at this
      exact this.1
  unfold intR
  rw [rdI_full n r hd]
  rfl
theorem snd_intR : Snd intR clampI := by
  intro l m r h
  unfold intR at h
  cases hx : rdI l with
  | none => rw [hx] at h; cases h
  | some x =>
    obtain ⟨n, q⟩ := x
    rw [hx] at h
    cases h
    exact ⟨n, rfl, (rdI_sound hx).1⟩
end Val
end Go.Proofs.YtegfcmnbljdcpaaGreatDoor

/-
  Layer 6: where what append builds lies.
-/
namespace Go.Proofs.YtegfcmnbljdcpaaGreatDoor
open Go.RowKit Go.ChangeShapes Go.WideShapes

/-- The same block as before, or a new one. -/
theorem app_fresh (w : World) (base : Nat) (t ty e : TypeId) (i : TypeInfo) (z : Value) (size bytes : Nat) (ht : Tryz.prog.underlying t = some (.slice e)) (hi : Tryz.prog.info? e = some i) (hz : i.zero = some z)
    (hsize : i.size = size) (hby : i.bytes = bytes) (hzs : z.cells.size = size) (hsz : 0 < size)
    (v : Value) (n : Nat) (xs : List Value) (hown : w.ownsRow base e size v n xs)
    (a : Addr) (m c : Nat) (news : List Value) (hl : news.length = m * size) (hnews : ∀ j u, news[j]? = some u → w.cell? (a.add j) = some u) (h1 : ∀ u ∈ news, u.oneCell' = true)
    (h63 : n + m ≤ maxLen) (hbytes : (n + m) * bytes ≤ 140737488355328) (hbase : base ≤ w.heap.size) :
    ∃ v' w', (Builtin.append_ #[t, t] ty #[v, .slice (some a) m c]).run Tryz.prog w = .ok v' w' ∧ w'.ownsRow base e size v' (n + m) (xs ++ news) ∧ w.grownBy w' v.ownBlock ∧ (v'.ownBlock = v.ownBlock ∨ v'.ownBlock = some w.heap.size) := by
  obtain ⟨v', w', hr, h2, h3, h4⟩ := run_append_own (P := Tryz.prog) w base t ty e i z size bytes ht hi hz hsize hby hzs hsz v n xs hown a m c news hl hnews h1 h63 hbytes hbase
  refine ⟨v', w', hr, h2, h3, ?_⟩
  have hsmall : n + m ≤ 9223372036854775807 := by unfold maxLen at h63; omega
  rcases hown.2 with ⟨rfl, rfl⟩ | ⟨g, cap, cur, rfl, hbg, hg, hnc, hcm, hcs, htake⟩
  · by_cases hm : m = 0
    · exact Or.inl (by rw [h4.2 ⟨rfl, hm⟩])
    · have hr2 := run_append_nil (P := Tryz.prog) w t ty e i z ht hi hz a m c news (by rw [hl, hsize]) hnews (by omega) (by omega) (by rw [hby]; simp only [Nat.zero_add] at hbytes; omega)
      rw [hr2] at hr
      injection hr with e1 e2
      subst e1
      exact Or.inr rfl
  · by_cases hroom : n + m ≤ cap
    · have hr2 := run_append_room (P := Tryz.prog) w t ty e i ht hi g n cap cur hg a m c news (by rw [hl, hsize]) hnews h1 hroom (by rw [hsize, hl, hcs, ← Nat.add_mul]; exact Nat.mul_le_mul_right _ hroom)
      rw [hr2] at hr
      injection hr with e1 e2
      subst e1
      exact Or.inl rfl
    · have holds : ∀ j u, xs[j]? = some u → w.cell? ((⟨g, 0, none⟩ : Addr).add j) = some u := hown.cells (g := g) rfl
      have hr2 := run_append_grow (P := Tryz.prog) w t ty e i z ht hi hz ⟨g, 0, none⟩ n cap xs (by rw [hsize]; exact hown.1) holds a m c news (by rw [hl, hsize]) hnews (by omega) (by omega) (by rw [hby]; exact growslice_fits (by omega) hbytes)
      rw [hr2] at hr
      injection hr with e1 e2
      subst e1
      exact Or.inr rfl
theorem app_fresh_str (w : World) (base : Nat) (t u ty e : TypeId) (i : TypeInfo) (ht : Tryz.prog.underlying t = some (.slice e)) (hu : Tryz.prog.underlying u = some .string) (hi : Tryz.prog.info? e = some i) (hz : i.zero = some (.int .u8 0))
    (hsize : i.size = 1) (hby : i.bytes = 1)
    (v : Value) (n : Nat) (xs : List Value) (hown : w.ownsRow base e 1 v n xs) (s : ByteArray)
    (h63 : n + s.size ≤ maxLen) (hbytes : n + s.size ≤ 140737488355328) (hbase : base ≤ w.heap.size) :
    ∃ v' w', (Builtin.append_ #[t, u] ty #[v, .string s]).run Tryz.prog w = .ok v' w' ∧ w'.ownsRow base e 1 v' (n + s.size) (xs ++ Lib.strCells s) ∧ w.grownBy w' v.ownBlock ∧ (v'.ownBlock = v.ownBlock ∨ v'.ownBlock = some w.heap.size) := by
  obtain ⟨v', w', hr, h2, h3, h4⟩ := Lib.run_append_own_string (P := Tryz.prog) w base t u ty e i ht hu hi hz hsize hby v n xs hown s h63 hbytes hbase
  refine ⟨v', w', hr, h2, h3, ?_⟩
  have hsmall : n + s.size ≤ 9223372036854775807 := by unfold maxLen at h63; omega
  have hxl : xs.length = n := by simpa using hown.1
  rcases hown.2 with ⟨rfl, rfl⟩ | ⟨g, cap, cur, rfl, hbg, hg, hnc, hcm, hcs, htake⟩
  · by_cases hm : s.size = 0
    · exact Or.inl (by rw [h4.2 ⟨rfl, hm⟩])
    · have hr2 := run_append_nil_string (P := Tryz.prog) w t u ty e i (.int .u8 0) ht hu hi hz s (by omega) (by omega) (by rw [hby]; omega)
      rw [hr2] at hr
      injection hr with e1 e2
      subst e1
      exact Or.inr rfl
  · by_cases hroom : n + s.size ≤ cap
    · have hcs3 : n + s.size ≤ cur.size := by
        have hcs2 : cur.size = cap := by simpa using hcs
        omega
      have hr2 := Lib.run_append_room_string (P := Tryz.prog) w t u ty e i ht hu hi hsize g n cap cur hg s hroom hcs3
      rw [hr2] at hr
      injection hr with e1 e2
      subst e1
      exact Or.inl rfl
    · have holds : ∀ j u, xs[j]? = some u → w.cell? ((⟨g, 0, none⟩ : Addr).add j) = some u := hown.cells (g := g) rfl
      have hr2 := Lib.run_append_grow_string (P := Tryz.prog) w t u ty e i (.int .u8 0) ht hu hi hz ⟨g, 0, none⟩ n cap xs (by rw [hsize]; simpa using hxl) holds s (by omega) (by omega) (by rw [hby]; exact growslice_fits (by omega) (by omega))
      rw [hr2] at hr
      injection hr with e1 e2
      subst e1
      exact Or.inr rfl
/-- Bytes as cells. -/
def encB (l : List UInt8) : List Value := l.map fun b => Value.int .u8 (b.toNat : Int)
theorem encB_len (l : List UInt8) : (encB l).length = l.length := by simp [encB]
theorem encB_app (l r : List UInt8) : encB (l ++ r) = encB l ++ encB r := by simp [encB]
theorem byte_one {l : List UInt8} : ∀ u ∈ encB l, u.oneCell' = true := fun u hu => by
  simp only [encB, List.mem_map] at hu
  obtain ⟨x, _, rfl⟩ := hu
  rfl
theorem info_u8 : (Tryz.prog.info? 5).map (fun i => (i.zero, i.size, i.bytes)) = some (some (.int .u8 0), 1, 1) := by kernel_rfl
theorem strCells_enc (s : ByteArray) : Lib.strCells s = encB s.toList := by rw [Val.toL]; rfl
/-- The string of owned bytes. -/
theorem own_conv {W : World} {base m c : Nat} {o : Option Addr} {l : List UInt8} (h : W.ownsRow base 5 1 (.slice o m c) m (encB l)) : (convert 65 9 (.slice o m c)).run Tryz.prog W = .ok (.string ⟨l.toArray⟩) W := by
  have hl : l.length = m := by have := h.1; rw [encB_len] at this; omega
  rcases h.2 with ⟨hv, hk⟩ | ⟨g, cap, cur, hv, _⟩
  · simp only [Value.slice.injEq] at hv
    obtain ⟨rfl, rfl, rfl⟩ := hv
    obtain rfl : l = [] := List.eq_nil_of_length_eq_zero hl
    exact run_convert_bytes_nil (P := Tryz.prog) (w := W) 65 5 Tryz.underlying65 Tryz.underlying5 0 0 9 Tryz.underlying9
  · simp only [Value.slice.injEq] at hv
    obtain ⟨rfl, -, rfl⟩ := hv
    subst hl
    exact run_convert_bytes_back (P := Tryz.prog) W 65 9 5 ⟨g, 0, none⟩ _ l Tryz.underlying65 Tryz.underlying5 Tryz.underlying9 (fun j hj => h.cells rfl j _ (by simp [encB, List.getElem?_eq_getElem hj]))
/-- A new block's cells, as append reads them. -/
theorem cells_new (w : World) (l : List Value) (t : TypeId) : ∀ j u, l[j]? = some u → (w.alloc (.cells l.toArray t)).cell? ((⟨w.heap.size, 0, none⟩ : Addr).add j) = some u := fun j u hj => by
  rw [Lib.add_plain, World.cell?_alloc_new]
  simpa using hj
/-- What a slice of one's own lies in. -/
def Blk (o : Option Addr) (k : Nat) : Prop := ∃ off, o = some ⟨k, off, none⟩
theorem blk_of {w : World} {base : Nat} {e : TypeId} {z : Nat} {o : Option Addr} {n c : Nat} {xs : List Value} (h : w.ownsRow base e z (.slice o n c) n xs) {k : Nat} : Blk o k ↔ (Value.slice o n c).ownBlock = some k := by
  rcases h.2 with ⟨hv, _⟩ | ⟨g, cap, cur, hv, _⟩
  · simp only [Value.slice.injEq] at hv
    obtain ⟨rfl, -, -⟩ := hv
    simp [Blk, Value.ownBlock]
  · simp only [Value.slice.injEq] at hv
    obtain ⟨rfl, -, -⟩ := hv
    simp [Blk, Value.ownBlock]
end Go.Proofs.YtegfcmnbljdcpaaGreatDoor

/-
  Layer 6: the walk over cells, whatever the visitor.
-/
namespace Go.Proofs.YtegfcmnbljdcpaaGreatDoor
open Go.RowKit Go.ChangeShapes Go.WideShapes
namespace Val

/-- Bounds of an open group behind k cells. -/
def GB (k : Nat) (g : Grp) : Prop := (1 ≤ g.nx.lev ∧ g.nx.lev ≤ k + 1) ∧ (0 ≤ g.nx.ink ∧ g.nx.ink ≤ 6) ∧ (0 ≤ g.nx.part ∧ g.nx.part ≤ k) ∧ (-(k : Int) ≤ g.left ∧ g.left ≤ 2000000) ∧ g.key.length ≤ 1000000
theorem GB.up {k : Nat} {g : Grp} (h : GB k g) : GB (k + 1) g := ⟨⟨h.1.1, by have := h.1.2; omega⟩, h.2.1, ⟨h.2.2.1.1, by have := h.2.2.1.2; omega⟩, ⟨by have := h.2.2.2.1.1; omega, h.2.2.2.1.2⟩, h.2.2.2.2⟩
theorem GB.ok {k : Nat} {g : Grp} (h : GB k g) (hk : k ≤ 1000000) : GOk 4000000 g := ⟨⟨by have := h.1.1; omega, by have := h.1.2; omega⟩, h.2.1, ⟨h.2.2.1.1, by have := h.2.2.1.2; omega⟩, ⟨by have := h.2.2.2.1.1; omega, by have := h.2.2.2.1.2; omega⟩, h.2.2.2.2, fun _ => h.1.1⟩
theorem GB.adv {k : Nat} {g : Grp} (h : GB k g) {c : Cel} (hc : c.s.length ≤ 1000000) : GB (k + 1) (advG g c) := by
  refine ⟨⟨h.1.1, by have := h.1.2; show g.nx.lev ≤ _; omega⟩, h.2.1, ⟨by have := h.2.2.1.1; show 0 ≤ g.nx.part + 1; omega, by have := h.2.2.1.2; show g.nx.part + 1 ≤ _; omega⟩, ⟨by have := h.2.2.2.1.1; show _ ≤ g.left - 1; omega, by have := h.2.2.2.1.2; show g.left - 1 ≤ _; omega⟩, ?_⟩
  show (if isKeyS g.nx then c.s else g.key).length ≤ _
  split
  · exact hc
  · exact h.2.2.2.2
theorem GB.new {k : Nat} {g : Grp} (h : GB k g) {c : Cel} (hp : properC c = true) (hg : isGrp c = true) (hn : c.n ≤ 1000000) : GB (k + 1) (newG g c) := by
  obtain ⟨ck, ci, cs, cn⟩ := c
  have hk : ck = 5 ∨ ck = 6 := by simpa [isGrp] using hg
  rw [prop5 ck ci cn cs hk] at hp
  simp only [Bool.and_eq_true, decide_eq_true_eq] at hp
  simp only at hn
  have h0 : 0 ≤ cn := hp.2
  refine ⟨⟨by have := h.1.1; show 1 ≤ g.nx.lev + 1; omega, by have := h.1.2; show g.nx.lev + 1 ≤ _; omega⟩, ?_, ⟨by show (0 : Int) ≤ 0; omega, by show (0 : Int) ≤ _; omega⟩, ?_, by show ([] : Txt).length ≤ _; decide⟩
  · show 0 ≤ ck ∧ ck ≤ 6
    omega
  · show -((k + 1 : Nat) : Int) ≤ partsC ⟨ck, ci, cs, cn⟩ ∧ partsC ⟨ck, ci, cs, cn⟩ ≤ 2000000
    unfold partsC
    simp only
    split <;> omega
theorem closed_mem : ∀ {st : List Grp} {g : Grp}, g ∈ closedG st → g ∈ st
  | [], g, h => h
  | x :: r, g, h => by
    rw [closedG] at h
    split at h
    · exact h
    · exact List.mem_cons_of_mem _ (closed_mem h)
theorem closed_sum : ∀ st : List Grp, (closedE st).length + (closedG st).length ≤ st.length
  | [] => Nat.le_refl _
  | x :: r => by
    have := closed_sum r
    rw [closedE, closedG]
    split
    · simp
    · split
      · simp only [List.length_cons]; omega
      · simp only [List.length_cons]; omega
theorem run_good {N : Int} {g : Grp} {st : List Grp} {c : Cel} {l : List Cel} (h : badC N g c = false) :
    (run N (g :: st) (c :: l)).1 = (run N (closedG (pushG g c st)) l).1 ∧ (run N (g :: st) (c :: l)).2 = (c, g.nx) :: closedE (pushG g c st) ++ (run N (closedG (pushG g c st)) l).2 := by
  rw [run, h]
  exact ⟨rfl, rfl⟩
theorem run_bad {N : Int} {g : Grp} {st : List Grp} {c : Cel} {l : List Cel} (h : badC N g c = true) : (run N (g :: st) (c :: l)).1 = false := by
  rw [run, h]
  rfl
theorem run_done (N : Int) : ∀ st : List Grp, (run N st []).1 = decide (st.length = 0) ∧ (run N st []).2 = []
  | [] => ⟨rfl, rfl⟩
  | _ :: _ => ⟨rfl, rfl⟩
theorem run_empty (N : Int) (c : Cel) (l : List Cel) : (run N [] (c :: l)).1 = false := rfl
end Val
end Go.Proofs.YtegfcmnbljdcpaaGreatDoor

/-
  Layer 6, texts merged: the reference's ways of finding, and Same. For every argument within the bounds that each theorem names.
-/
import Derived.Test.YtegfcmnbljdcpaaGreatDoorMC
import Derived.Test.YtegfcmnbljdcpaaGreatDoorMA
import Derived.BigQuiet
import Derived.Deep.RegionHeld3
import Derived.Laws.StructEq

/-
  Layer 6, the reference: Keys.
-/
namespace Go.Proofs.YtegfcmnbljdcpaaGreatDoor
open Go.RowKit Go.ChangeShapes Go.WideShapes
namespace Val

/-- A string behind what is owned, at a region's operation. -/
theorem list_appS {Y : World} {m c : Nat} {p : Option Addr} {l : List ByteArray} {x : ByteArray} {b : Nat} {w : World} {ops : Array Oper} {rest : List Oper} {o : Oper} {a : Act} {Q : Exit → Act → World → Prop} (s y : Operand)
    (ho : o.op = .call { callee := .builtin .append, args := #[s, y], argTypes := #[23, 23] }) (hgd : o.guard = none) (_hty : o.type = 23) (hs : a.eval s = .slice p m c) (hx : a.eval y = .slice (some ⟨b, 0, none⟩) 1 1)
    (hb : Bel w Y) (hown : Y.ownsRow w.heap.size 9 1 (.slice p m c) m (encS l)) (h2 : ∀ j u, [Value.string x][j]? = some u → Y.cell? ((⟨b, 0, none⟩ : Addr).add j) = some u) (hm : m + 1 ≤ 1099511627776)
    (h : ∀ o3 c3 w', Hid (Bel w w') → Hid (w'.ownsRow w.heap.size 9 1 (.slice o3 (m + 1) c3) (m + 1) (encS (l ++ [x]))) → wpList Tryz.prog ops Q rest (a.put o.dst (.slice o3 (m + 1) c3)) w') : wpList Tryz.prog ops Q (o :: rest) a Y := by
  obtain ⟨i0, hi, hz0, hz1, hz2⟩ := info_parts info_str
  refine wpList_append_own _ hgd s y 23 ho w.heap.size 9 i0 _ 1 16 Tryz.underlying23 hi hz0 hz1 hz2 rfl (by decide) _ m _ hs hown ⟨b, 0, none⟩ 1 1 [.string x] hx rfl h2 (fun u hu => by simp at hu; subst hu; rfl) (by unfold maxLen; omega) (by omega) hb.size ?_
  intro v' w' ho' hg _
  obtain ⟨o3, c3, rfl⟩ := own_shape ho'
  exact h o3 c3 w' (Lib.hid (own_bel hown hb hg)) (Lib.hid (by rw [show encS (l ++ [x]) = encS l ++ [.string x] by simp [encS]]; exact ho'))
theorem own1_le {w : World} {base : Nat} {e : TypeId} {o : Option Addr} {k c : Nat} {xs : List Value} (h : w.ownsRow base e 1 (.slice o k c) k xs) : k ≤ c := by
  rcases h.2 with ⟨hv, hk⟩ | ⟨g, cap, cur, hv, _, _, hc, _⟩
  · omega
  · simp only [Value.slice.injEq] at hv
    omega
def keysM : M → List ByteArray
  | .nil => []
  | .cons k _ r => ⟨k.toArray⟩ :: keysM r
theorem keysM_len : ∀ x, (keysM x).length = lenM x
  | .nil => rfl
  | .cons _ _ r => by rw [keysM, lenM, List.length_cons, keysM_len r]
/-- What Keys answers. -/
def keyB (l : List Cel) : List ByteArray := match par l with
  | some (.map x) => if chkT l (.map x) = 0 then keysM x else []
  | _ => []
def keyE (l : List Cel) : Int := if chk l = 0 then (match par l with
  | some (.map _) => 0
  | _ => 7) else chk l
/-- Strings and an error, as a function returns them. -/
def SRes (w : World) (e : Ending) (l : List ByteArray) (E : Int) : Prop := ∃ o n c, e = .returned (.tuple #[.slice o n c, .int .i64 E]) ∧ SlArg w o n l ∧ n ≤ c
theorem SRes.nil (w : World) (E : Int) : SRes w (.returned (.tuple #[.slice none 0 0, .int .i64 E])) [] E := ⟨none, 0, 0, rfl, SlArg.nil w, Nat.le_refl _⟩
theorem head_of {l : List Cel} {t : V} (h : l = flat t) : 0 < l.length := by rw [h]; exact flat_pos t
set_option maxRecDepth 100000 in
set_option maxHeartbeats 2000000 in
theorem keys_map (l : List Cel) (x : M) (hp : par l = some (.map x)) (hz : chkT l (.map x) = 0) (o : Option Addr) (n c : Nat) (hn : n ≤ 1000000) (w : World) (hL : Lad w) (hA : CArg w o n l) :
    Calls Tryz.prog 10 #[.slice o n c] w fun e w' => SRes w' e (keysM x) 0 ∧ Bel w w' := by
  have hchk : chk l = 0 := by unfold chk; rw [hp]; exact hz
  have hHC := check_any l o n c hn w hL hA
  rw [hchk] at hHC
  have HC := Lib.hid hHC
  obtain ⟨hw, hlf⟩ := par_some.1 hp
  have hl := hA.1
  have hpos := head_of hlf
  obtain ⟨b, off, rfl, hcs⟩ := hA.2.2 (by omega)
  have hd : l.drop 0 = ⟨6, 0, [], (lenM x : Int)⟩ :: flatM x := by rw [List.drop_zero]; exact hlf
  obtain ⟨_, hc0, hd2⟩ := cell_of hd
  obtain ⟨c1, _, _, c4⟩ := hcs 0 hpos
  rw [hc0] at c1 c4
  simp only [Nat.zero_mul, Nat.add_zero] at c1 c4
  have hN : lenM x ≤ n := by
    have h1 := lenM_le x
    have h2 := congrArg List.length hd2
    rw [List.length_drop] at h2
    omega
  have HA := Lib.hid hA
  obtain ⟨N, hNx⟩ : ∃ N, lenM x = N := ⟨_, rfl⟩
  rw [hNx] at c4 hN
  rw [wf] at hw
  have HW := Lib.hid (show wfMX x from ⟨none, hw⟩)
  have HD := Lib.hid hd2
  have HNx := Lib.hid hNx
  have C1 := Lib.hid c1
  have C4 := Lib.hid c4
  clear hchk hHC hw hlf hd hc0 hd2 hp hz hcs c1 c4 hA hL hNx
  go_enter Tryz.func10, Tryz.ntmps10
  go_wp2_with fail
  refine HC.out.mono ?_
  rintro e w1 ⟨rfl, g1⟩
  have d1 := g1.cell' C1.out
  have B1 := Lib.hid g1
  clear HC g1
  go_wp2_with fail
  clear d1
  go_loopw [5, 6, 7] (fun v a' k' wr => ∃ (q : M) (j k c' : Nat) (a : Option Addr) (p : List ByteArray), v = .slice a k c' ∧ a' = .int .i64 (j : Int) ∧ k' = .int .i64 (k : Int) ∧ k ≤ N ∧ j ≤ n ∧ Hid (k + lenM q = N) ∧ Hid (wfMX q) ∧ Hid (l.drop j = flatM q ++ []) ∧ Hid (p ++ keysM q = keysM x) ∧ Hid (wr.ownsRow w.heap.size 9 1 (.slice a k c') k (encS p)) ∧ Hid (Bel w wr)) (fun _ _ k' _ => N - (intOf k').toNat)
  case atStart => exact ⟨x, 1, 0, 0, none, [], rfl, rfl, rfl, Nat.zero_le _, by omega, Lib.hid (by rw [HNx.out]; omega), HW, Lib.hid (by rw [List.append_nil]; exact HD.out), Lib.hid rfl, Lib.hid (World.ownsRow_nil _ _ _ _), B1⟩
  case round =>
    obtain ⟨q, j, k, c', a, p, rfl, rfl, rfl, hk, hj, hkq, hwq, hdq, hpq, hown, hb⟩ := hrel
    rename World => W0
    have d4 := hb.out.cell' C4.out
    cases q with
    | nil =>
      have hkn := hkq.out
      rw [lenM, Nat.add_zero] at hkn
      subst hkn
      have hpp := hpq.out
      rw [keysM, List.append_nil] at hpp
      subst hpp
      clear hkq hwq hdq hpq
      go_wp2
      go_ret2
      exact ⟨⟨a, k, c', rfl, own_sarg hown.out, own1_le hown.out⟩, hb.out⟩
    | cons ky v q =>
      have hd2 := hdq.out
      rw [flatM, List.cons_append, List.append_assoc] at hd2
      obtain ⟨hi, hck, hd3⟩ := cell_of hd2
      obtain ⟨qq, hw2⟩ := hwq.out
      rw [wfM, Bool.and_eq_true, Bool.and_eq_true, Bool.and_eq_true] at hw2
      obtain ⟨e1, e2, e3⟩ := nx_flat hd3 hw2.1.2
      obtain ⟨b2, off2, h2, hcs2⟩ := (HA.out.on hb.out).2.2 (by omega)
      cases h2
      obtain ⟨_, _, c3, _⟩ := hcs2 j hi
      rw [hck] at c3
      simp only at c3
      obtain ⟨X, hX⟩ : ∃ X : ByteArray, ⟨ky.toArray⟩ = X := ⟨_, rfl⟩
      rw [hX] at c3
      have HNx2 := next_all l l.length (some ⟨b, off, none⟩) n c (j + 1) (by omega) (by omega) hn
      rw [e1] at HNx2
      have HN := Lib.hid HNx2
      have hwq2 : Hid (wfMX q) := Lib.hid ⟨_, hw2.2⟩
      have hdq2 := Lib.hid e2
      have hkq2 : Hid (k + 1 + lenM q = N) := Lib.hid (by have := hkq.out; rw [lenM] at this; omega)
      have hkN : k < N := by have := hkq2.out; omega
      have hpq2 : Hid ((p ++ [X]) ++ keysM q = keysM x) := Lib.hid (by rw [← hX, ← hpq.out, keysM, List.append_assoc]; rfl)
      obtain ⟨J, hJ⟩ : ∃ J, j + 1 + (flat v).length = J := ⟨_, rfl⟩
      rw [hJ] at HN hdq2 e3
      have hjn : j < n := by omega
      have hJn : J ≤ n := by omega
      have bA := Lib.hid (hb.out.alloc (.cells #[.string X] 9))
      have oA := Lib.hid (hown.out.alloc (.cells #[.string X] 9))
      have q1 := Lib.hid (cell_new1 W0 (.string X) 9)
      have q2 : Hid (k + 1 ≤ 1099511627776) := Lib.hid (by omega)
      clear hkq hwq hdq hpq hd2 hck hd3 hw2 e1 e2 hcs2 HNx2 hX hJ hown hb
      go_wp2_with (at_builtin; refine list_appS _ _ rfl rfl rfl rfl rfl bA.out oA.out q1.out q2.out ?_; intro o3 c3 w3 g3 k3; refine Hid.out ?_)
      refine Lib.hid ?_
      clear bA oA q1 q2
      go_wp2_with fail
      refine (HN.out w3 (HA.out.on g3.out)).mono ?_
      rintro e w4 ⟨rfl, g4⟩
      have k4 := Lib.hid (own_on k3.out g4)
      clear k3
      go_wp2_with fail
      go_round
      case rel => exact ⟨q, J, k + 1, c3, o3, p ++ [X], rfl, rfl, by go_num, by omega, by omega, hkq2, hwq2, hdq2, hpq2, k4, Lib.hid (Bel.trans g3.out g4)⟩
      case measure => simp [intOf]; omega
theorem keys_bad (l : List Cel) (hx : chk l ≠ 0) (o : Option Addr) (n c : Nat) (hn : n ≤ 1000000) (w : World) (hL : Lad w) (hA : CArg w o n l) :
    Calls Tryz.prog 10 #[.slice o n c] w fun e w' => SRes w' e [] (chk l) ∧ Bel w w' := by
  have HC := Lib.hid (check_any l o n c hn w hL hA)
  generalize chk l = E at *
  clear hA
  go_enter Tryz.func10, Tryz.ntmps10
  go_wp2_with fail
  refine HC.out.mono ?_
  rintro e w1 ⟨rfl, g1⟩
  go_wp2_with fail
  go_ret2
  exact ⟨SRes.nil _ _, g1⟩
theorem keys_type (l : List Cel) (t : V) (hp : par l = some t) (hz : chkT l t = 0) (hm : ∀ x, t ≠ .map x) (o : Option Addr) (n c : Nat) (hn : n ≤ 1000000) (w : World) (hL : Lad w) (hA : CArg w o n l) :
    Calls Tryz.prog 10 #[.slice o n c] w fun e w' => SRes w' e [] 7 ∧ Bel w w' := by
  have hchk : chk l = 0 := by unfold chk; rw [hp]; exact hz
  have hHC := check_any l o n c hn w hL hA
  rw [hchk] at hHC
  have HC := Lib.hid hHC
  obtain ⟨hw, hlf⟩ := par_some.1 hp
  have hl := hA.1
  have hpos := head_of hlf
  obtain ⟨b, off, rfl, hcs⟩ := hA.2.2 (by omega)
  obtain ⟨c1, _, _, _⟩ := hcs 0 hpos
  obtain ⟨K, hK⟩ : ∃ K, l[0].k = K := ⟨_, rfl⟩
  rw [hK] at c1
  have hne : ¬ K = 6 := by
    intro h6
    rw [h6] at hK
    clear hcs c1 hHC HC
    subst hlf
    cases t with
    | map x => exact hm x rfl
    | _ => simp [flat] at hK
  simp only [Nat.zero_mul, Nat.add_zero] at c1
  have C1 := Lib.hid c1
  have hb6 : (K == 6) = false := by simpa using hne
  clear hchk hHC hw hp hz hcs c1 hA hL hK hlf hm
  go_enter Tryz.func10, Tryz.ntmps10
  go_wp2_with fail
  refine HC.out.mono ?_
  rintro e w1 ⟨rfl, g1⟩
  have d1 := g1.cell' C1.out
  go_wp2_with fail
  go_ret2
  exact ⟨SRes.nil _ _, g1⟩
theorem keys_any (l : List Cel) (o : Option Addr) (n c : Nat) (hn : n ≤ 1000000) (w : World) (hL : Lad w) (hA : CArg w o n l) :
    Calls Tryz.prog 10 #[.slice o n c] w fun e w' => SRes w' e (keyB l) (keyE l) ∧ Bel w w' := by
  by_cases hx : chk l = 0
  · obtain ⟨t, hp, hz⟩ := chk_ok hx
    by_cases hm : ∃ x, t = .map x
    · obtain ⟨x, rfl⟩ := hm
      have h1 : keyB l = keysM x := by unfold keyB; rw [hp]; exact if_pos hz
      have h2 : keyE l = 0 := by unfold keyE; rw [if_pos hx, hp]
      rw [h1, h2]
      exact keys_map l x hp hz o n c hn w hL hA
    · have h1 : keyB l = [] := by
        unfold keyB
        rw [hp]
        cases t with
        | map x => exact absurd ⟨x, rfl⟩ hm
        | _ => rfl
      have h2 : keyE l = 7 := by
        unfold keyE
        rw [if_pos hx, hp]
        cases t with
        | map x => exact absurd ⟨x, rfl⟩ hm
        | _ => rfl
      rw [h1, h2]
      exact keys_type l t hp hz (fun x e => hm ⟨x, e⟩) o n c hn w hL hA
  · have h1 : keyB l = [] := by
      unfold keyB
      unfold chk at hx
      split
      · next x e => rw [e] at hx; exact if_neg hx
      · rfl
    have h2 : keyE l = chk l := by unfold keyE; rw [if_neg hx]
    rw [h1, h2]
    exact keys_bad l hx o n c hn w hL hA
end Val
end Go.Proofs.YtegfcmnbljdcpaaGreatDoor

/-
  Layer 6, the reference: Items.
-/
namespace Go.Proofs.YtegfcmnbljdcpaaGreatDoor
open Go.RowKit Go.ChangeShapes Go.WideShapes
namespace Val

/-- A slice of cells does not lie in a row's block. -/
def Apart (o : Option Addr) (row : Option Nat) : Prop := ∀ a : Addr, o = some a → some a.block ≠ row
theorem CArg.grown {w w' : World} {o : Option Addr} {n : Nat} {l : List Cel} {row : Option Nat} (h : CArg w o n l) (g : w.grownBy w' row) (ha : Apart o row) : CArg w' o n l :=
  ⟨h.1, h.2.1, fun hn => by
    obtain ⟨b, off, e, k⟩ := h.2.2 hn
    have hne : some b ≠ row := ha _ e
    refine ⟨b, off, e, fun i hi => ?_⟩
    obtain ⟨k1, k2, k3, k4⟩ := k i hi
    exact ⟨g.cell k1 hne, g.cell k2 hne, g.cell k3 hne, g.cell k4 hne⟩⟩
theorem CArg.lt {w : World} {a : Addr} {n : Nat} {l : List Cel} (h : CArg w (some a) n l) (hn : 0 < n) : a.block < w.heap.size := by
  obtain ⟨b', off', e, k⟩ := h.2.2 hn
  cases e
  have := (k 0 (by have := h.1; omega)).1
  exact cell_lt' this
/-- Slices of cells, owned. -/
def LOwn (w : World) (base : Nat) (o : Option Addr) (k c : Nat) (ls : List (List Cel)) : Prop := ∃ vs : List Value, w.ownsRow base 22 1 (.slice o k c) k vs ∧ vs.length = ls.length ∧ ∀ i (h : i < ls.length) (h' : i < vs.length), ∃ p m d, vs[i] = .slice p m d ∧ CArg w p m ls[i] ∧ m ≤ d ∧ (0 < m → Apart p (Value.ownBlock (.slice o k c)))
theorem LOwn.nil (w : World) (base : Nat) : LOwn w base none 0 0 [] := ⟨[], World.ownsRow_nil _ _ _ _, rfl, fun i h => absurd h (Nat.not_lt_zero i)⟩
theorem LOwn.on {w w' : World} {base : Nat} {o : Option Addr} {k c : Nat} {ls : List (List Cel)} (h : LOwn w base o k c ls) (b : Bel w w') : LOwn w' base o k c ls :=
  let ⟨vs, h1, h2, h3⟩ := h
  ⟨vs, own_on h1 b, h2, fun i a a' => let ⟨p, m, d, e, g, q, r⟩ := h3 i a a'; ⟨p, m, d, e, g.on b, q, r⟩⟩
theorem LOwn.arg {w : World} {base : Nat} {o : Option Addr} {k c : Nat} {ls : List (List Cel)} (h : LOwn w base o k c ls) : LArg w o k ls ∧ k ≤ c := by
  obtain ⟨vs, h1, h2, h3⟩ := h
  have hl : vs.length = k := by have := h1.1; omega
  refine ⟨⟨by omega, fun i hi => ?_⟩, own1_le h1⟩
  rcases h1.2 with ⟨hv, hk⟩ | ⟨g, cap, cur, hv, _, _, _⟩
  · omega
  · simp only [Value.slice.injEq] at hv
    obtain ⟨rfl, -, rfl⟩ := hv
    have hi' : i < vs.length := by omega
    obtain ⟨p, m, d, e, g1, q, _⟩ := h3 i hi hi'
    exact ⟨_, p, m, d, rfl, h1.cells rfl i _ (by rw [List.getElem?_eq_getElem hi', e]), g1, q⟩
theorem LOwn.lt {w : World} {base : Nat} {o : Option Addr} {k c : Nat} {ls : List (List Cel)} (h : LOwn w base o k c ls) : ∀ b, Value.ownBlock (.slice o k c) = some b → b < w.heap.size := fun b e =>
  let ⟨_, h1, _, _⟩ := h
  (h1.lt b e).2
theorem info_sl : (Tryz.prog.info? 22).map (fun i => (i.zero, i.size, i.bytes)) = some (some (.slice none 0 0), 1, 24) := by kernel_rfl
/-- A slice of cells behind what is owned, at a region's operation. -/
theorem list_appL {Y : World} {m c : Nat} {p : Option Addr} {ls : List (List Cel)} {x : List Cel} {b : Nat} {q : Option Addr} {qm qc : Nat} {w : World} {ops : Array Oper} {rest : List Oper} {o : Oper} {a : Act} {Q : Exit → Act → World → Prop} (s y : Operand)
    (ho : o.op = .call { callee := .builtin .append, args := #[s, y], argTypes := #[27, 27] }) (hgd : o.guard = none) (hs : a.eval s = .slice p m c) (hx : a.eval y = .slice (some ⟨b, 0, none⟩) 1 1)
    (hb : Bel w Y) (hown : LOwn Y w.heap.size p m c ls) (h2 : ∀ j u, [Value.slice q qm qc][j]? = some u → Y.cell? ((⟨b, 0, none⟩ : Addr).add j) = some u) (hq : CArg Y q qm x) (hqc : qm ≤ qc) (hqa : 0 < qm → Apart q (Value.ownBlock (.slice p m c))) (hm : m + 1 ≤ 1099511627776)
    (h : ∀ o3 c3 w', Hid (Bel w w') → Hid (LOwn w' w.heap.size o3 (m + 1) c3 (ls ++ [x])) → wpList Tryz.prog ops Q rest (a.put o.dst (.slice o3 (m + 1) c3)) w') : wpList Tryz.prog ops Q (o :: rest) a Y := by
  obtain ⟨i0, hi, hz0, hz1, hz2⟩ := info_parts info_sl
  obtain ⟨vs, h1, h2', h3⟩ := hown
  refine wpList_append_own_at _ hgd s y 27 ho w.heap.size 22 i0 _ 1 24 Tryz.underlying27 hi hz0 hz1 hz2 rfl (by decide) _ m _ hs h1 ⟨b, 0, none⟩ 1 1 [.slice q qm qc] hx rfl h2 (fun u hu => by simp at hu; subst hu; rfl) (by unfold maxLen; omega) (by omega) hb.size ?_
  intro v' w' ho' hg _ hat
  obtain ⟨o3, c3, rfl⟩ := own_shape ho'
  have far : ∀ (p' : Option Addr) (m' : Nat) (l : List Cel), CArg Y p' m' l → (0 < m' → Apart p' (Value.ownBlock (.slice p m c))) → CArg w' p' m' l ∧ (0 < m' → Apart p' (Value.ownBlock (.slice o3 (m + 1) c3))) := fun p' m' l hC hA => by
    rcases Nat.eq_zero_or_pos m' with h0 | h0
    · exact ⟨⟨hC.1, hC.2.1, fun k => absurd k (by omega)⟩, fun k => absurd k (by omega)⟩
    · refine ⟨hC.grown hg (hA h0), fun _ ad e => ?_⟩
      rcases hat with hat | hat
      · rw [hat]
        exact hA h0 ad e
      · rw [hat]
        subst e
        intro he
        have := hC.lt h0
        have := Option.some.inj he
        omega
  refine h o3 c3 w' (Lib.hid (own_bel h1 hb hg)) (Lib.hid ⟨_, ho', by simp [h2'], fun i a a' => ?_⟩)
  rcases Nat.lt_or_ge i ls.length with hl | hl
  · obtain ⟨p', m', d', e, g', q', r'⟩ := h3 i hl (by omega)
    obtain ⟨f1, f2⟩ := far p' m' _ g' r'
    exact ⟨p', m', d', by rw [List.getElem_append_left (by omega)]; exact e, by rw [List.getElem_append_left hl]; exact f1, q', f2⟩
  · have hi0 : i = ls.length := by simp at a; omega
    subst hi0
    obtain ⟨f1, f2⟩ := far q qm x hq hqa
    exact ⟨q, qm, qc, by simp [← h2'], by simpa using f1, hqc, f2⟩
end Val
end Go.Proofs.YtegfcmnbljdcpaaGreatDoor

/-
  Layer 6, the reference: Items.
-/
namespace Go.Proofs.YtegfcmnbljdcpaaGreatDoor
open Go.RowKit Go.ChangeShapes Go.WideShapes
namespace Val

def valsL : L → List (List Cel)
  | .nil => []
  | .cons v r => flat v :: valsL r
def valsM : M → List (List Cel)
  | .nil => []
  | .cons _ v r => flat v :: valsM r
theorem valsL_len : ∀ x, (valsL x).length = lenL x
  | .nil => rfl
  | .cons _ r => by rw [valsL, lenL, List.length_cons, valsL_len r]
theorem valsM_len : ∀ x, (valsM x).length = lenM x
  | .nil => rfl
  | .cons _ _ r => by rw [valsM, lenM, List.length_cons, valsM_len r]
def itmV : V → List (List Cel)
  | .list x => valsL x
  | .map x => valsM x
  | _ => []
def itmB (l : List Cel) : List (List Cel) := match par l with
  | some t => if chkT l t = 0 then itmV t else []
  | none => []
def itmE (l : List Cel) : Int := if chk l = 0 then (match par l with
  | some (.map _) => 0
  | some (.list _) => 0
  | _ => 7) else chk l
/-- Slices of cells and an error, as a function returns them. -/
def LRes (w : World) (e : Ending) (l : List (List Cel)) (E : Int) : Prop := ∃ o n c, e = .returned (.tuple #[.slice o n c, .int .i64 E]) ∧ LArg w o n l ∧ n ≤ c
theorem LRes.nil (w : World) (E : Int) : LRes w (.returned (.tuple #[.slice none 0 0, .int .i64 E])) [] E := ⟨none, 0, 0, rfl, LArg.nil w none, Nat.le_refl _⟩
theorem new_apart {w : World} {o o2 : Option Addr} {k c d c2 base : Nat} {ls : List (List Cel)} (h : LOwn w base o k c ls) (h2 : ∀ i, (Value.slice o2 d c2).ownBlock = some i → w.heap.size ≤ i) : Apart o2 (Value.ownBlock (.slice o k c)) := fun a e he => by
  subst e
  have h3 := h2 a.block rfl
  have h4 := h.lt a.block he.symm
  omega
set_option maxRecDepth 100000 in
set_option maxHeartbeats 4000000 in
theorem items_list (l : List Cel) (x : L) (hp : par l = some (.list x)) (hz : chkT l (.list x) = 0) (o : Option Addr) (n c : Nat) (hn : n ≤ 1000000) (w : World) (hL : Lad w) (hA : CArg w o n l) :
    Calls Tryz.prog 8 #[.slice o n c] w fun e w' => LRes w' e (valsL x) 0 ∧ Bel w w' := by
  have hchk : chk l = 0 := by unfold chk; rw [hp]; exact hz
  have hHC := check_any l o n c hn w hL hA
  rw [hchk] at hHC
  have HC := Lib.hid hHC
  obtain ⟨hw, hlf⟩ := par_some.1 hp
  have hl := hA.1
  have hpos := head_of hlf
  obtain ⟨b, off, rfl, hcs⟩ := hA.2.2 (by omega)
  have hd : l.drop 0 = ⟨5, 0, [], (lenL x : Int)⟩ :: flatL x := by rw [List.drop_zero]; exact hlf
  obtain ⟨_, hc0, hd2⟩ := cell_of hd
  obtain ⟨c1, _, _, c4⟩ := hcs 0 hpos
  rw [hc0] at c1 c4
  simp only [Nat.zero_mul, Nat.add_zero] at c1 c4
  have hN : lenL x ≤ n := by
    have h1 := lenL_le x
    have h2 := congrArg List.length hd2
    rw [List.length_drop] at h2
    omega
  have HA := Lib.hid hA
  obtain ⟨N, hNx⟩ : ∃ N, lenL x = N := ⟨_, rfl⟩
  rw [hNx] at c4 hN
  rw [wf] at hw
  have HW := Lib.hid (show wfLX x from hw)
  have HD := Lib.hid hd2
  have HNx := Lib.hid hNx
  have C1 := Lib.hid c1
  have C4 := Lib.hid c4
  clear hchk hHC hw hlf hd hc0 hd2 hp hz hcs c1 c4 hA hL hNx
  go_enter Tryz.func8, Tryz.ntmps8
  go_wp2_with fail
  refine HC.out.mono ?_
  rintro e w1 ⟨rfl, g1⟩
  have d1 := g1.cell' C1.out
  have B1 := Lib.hid g1
  clear HC g1
  go_wp2_with fail
  clear d1
  go_loopw [5, 6, 7] (fun v a' k' wr => ∃ (q : L) (j k c' : Nat) (a : Option Addr) (p : List (List Cel)), v = .slice a k c' ∧ a' = .int .i64 (j : Int) ∧ k' = .int .i64 (k : Int) ∧ k ≤ N ∧ j ≤ n ∧ Hid (k + lenL q = N) ∧ Hid (wfLX q) ∧ Hid (l.drop j = flatL q ++ []) ∧ Hid (p ++ valsL q = valsL x) ∧ Hid (LOwn wr w.heap.size a k c' p) ∧ Hid (Bel w wr)) (fun _ _ k' _ => N - (intOf k').toNat)
  case atStart => exact ⟨x, 1, 0, 0, none, [], rfl, rfl, rfl, Nat.zero_le _, by omega, Lib.hid (by rw [HNx.out]; omega), HW, Lib.hid (by rw [List.append_nil]; exact HD.out), Lib.hid rfl, Lib.hid (LOwn.nil _ _), B1⟩
  case round =>
    obtain ⟨q, j, k, c', a, p, rfl, rfl, rfl, hk, hj, hkq, hwq, hdq, hpq, hown, hb⟩ := hrel
    rename World => W0
    have d4 := hb.out.cell' C4.out
    cases q with
    | nil =>
      have hkn := hkq.out
      rw [lenL, Nat.add_zero] at hkn
      subst hkn
      have hpp := hpq.out
      rw [valsL, List.append_nil] at hpp
      subst hpp
      clear hkq hwq hdq hpq
      go_wp2
      go_ret2
      exact ⟨⟨a, k, c', rfl, hown.out.arg.1, hown.out.arg.2⟩, hb.out⟩
    | cons v q =>
      have d1 := hb.out.cell' C1.out
      have hd2 := hdq.out
      rw [flatL, List.append_assoc] at hd2
      have hw2 := hwq.out
      unfold wfLX at hw2
      rw [wfL, Bool.and_eq_true] at hw2
      obtain ⟨e1, e2, e3⟩ := nx_flat hd2 hw2.1
      have hwq2 : Hid (wfLX q) := Lib.hid hw2.2
      have hi : j < l.length := by have := flat_pos v; omega
      obtain ⟨f, hf⟩ : ∃ f, j = f := ⟨_, rfl⟩
      rw [hf] at e1 e2 e3 hd2
      have hfl : (l.drop f).take (flat v).length = flat v := by rw [hd2]; exact List.take_left
      have hvp := flat_pos v
      have hkq2 : Hid (k + 1 + lenL q = N) := Lib.hid (by have := hkq.out; rw [lenL] at this; omega)
      have hkN : k < N := by have := hkq2.out; omega
      have hpq2 : Hid ((p ++ [flat v]) ++ valsL q = valsL x) := Lib.hid (by rw [← hpq.out, valsL, List.append_assoc]; rfl)
      have HNx2 := next_all l l.length (some ⟨b, off, none⟩) n c f (by omega) (by omega) hn
      rw [e1] at HNx2
      obtain ⟨d, hdv⟩ : ∃ d, (flat v).length = d := ⟨_, rfl⟩
      rw [hdv] at HNx2 e2 e3 hfl hvp
      obtain ⟨J, hJ⟩ : ∃ J, f + d = J := ⟨_, rfl⟩
      rw [hJ] at HNx2 e2 e3
      have HN := Lib.hid HNx2
      have hP := part_any l (some ⟨b, off, none⟩) n c f d J hJ.symm (by omega) hn
      rw [hfl] at hP
      have HP := Lib.hid hP
      have hdq2 := Lib.hid e2
      have hJn : J ≤ n := by omega
      have hvp2 := Lib.hid hvp
      have hfj : Hid (f = j) := Lib.hid hf.symm
      have hjn : j < n := by omega
      have q2 : Hid (k + 1 ≤ 1099511627776) := Lib.hid (by omega)
      subst hf
      clear hkq hwq hdq hpq hd2 hw2 e1 e2 HNx2 hJ hfl hvp hdv hP
      go_wp2_with fail
      refine (HN.out W0 (HA.out.on hb.out)).mono ?_
      rintro e w2 ⟨rfl, g2⟩
      go_wp2_with fail
      refine (HP.out w2 (HA.out.on (Bel.trans hb.out g2))).mono ?_
      rintro e w3 ⟨⟨o2, c2, rfl, hC, hdc, hbl⟩, g3⟩
      have oA := Lib.hid ((hown.out.on g2).on (g3.alloc (.cells #[.slice o2 d c2] 22)))
      have bA := Lib.hid ((Bel.trans (Bel.trans hb.out g2) g3).alloc (.cells #[.slice o2 d c2] 22))
      have cA := Lib.hid (hC.on ((Bel.refl w3).alloc (.cells #[.slice o2 d c2] 22)))
      have hap := Lib.hid (fun (_ : 0 < d) => new_apart (hown.out.on g2) hbl)
      have hdc2 := Lib.hid hdc
      have q1 := Lib.hid (cell_new1 w3 (.slice o2 d c2) 22)
      clear hown hb g2 g3 hC hdc hbl
      go_wp2_with (at_builtin; refine list_appL _ _ rfl rfl rfl rfl bA.out oA.out q1.out cA.out hdc2.out hap.out q2.out ?_; intro o4 c4 w4 g4 k4; refine Hid.out ?_)
      refine Lib.hid ?_
      clear bA oA q1 cA hap
      go_wp2
      go_round
      case rel => exact ⟨q, J, k + 1, c4, o4, p ++ [flat v], rfl, rfl, by go_num, by omega, by omega, hkq2, hwq2, hdq2, hpq2, k4, g4⟩
      case measure => simp [intOf]; omega
set_option maxRecDepth 100000 in
set_option maxHeartbeats 4000000 in
theorem items_map (l : List Cel) (x : M) (hp : par l = some (.map x)) (hz : chkT l (.map x) = 0) (o : Option Addr) (n c : Nat) (hn : n ≤ 1000000) (w : World) (hL : Lad w) (hA : CArg w o n l) :
    Calls Tryz.prog 8 #[.slice o n c] w fun e w' => LRes w' e (valsM x) 0 ∧ Bel w w' := by
  have hchk : chk l = 0 := by unfold chk; rw [hp]; exact hz
  have hHC := check_any l o n c hn w hL hA
  rw [hchk] at hHC
  have HC := Lib.hid hHC
  obtain ⟨hw, hlf⟩ := par_some.1 hp
  have hl := hA.1
  have hpos := head_of hlf
  obtain ⟨b, off, rfl, hcs⟩ := hA.2.2 (by omega)
  have hd : l.drop 0 = ⟨6, 0, [], (lenM x : Int)⟩ :: flatM x := by rw [List.drop_zero]; exact hlf
  obtain ⟨_, hc0, hd2⟩ := cell_of hd
  obtain ⟨c1, _, _, c4⟩ := hcs 0 hpos
  rw [hc0] at c1 c4
  simp only [Nat.zero_mul, Nat.add_zero] at c1 c4
  have hN : lenM x ≤ n := by
    have h1 := lenM_le x
    have h2 := congrArg List.length hd2
    rw [List.length_drop] at h2
    omega
  have HA := Lib.hid hA
  obtain ⟨N, hNx⟩ : ∃ N, lenM x = N := ⟨_, rfl⟩
  rw [hNx] at c4 hN
  rw [wf] at hw
  have HW := Lib.hid (show wfMX x from ⟨none, hw⟩)
  have HD := Lib.hid hd2
  have HNx := Lib.hid hNx
  have C1 := Lib.hid c1
  have C4 := Lib.hid c4
  clear hchk hHC hw hlf hd hc0 hd2 hp hz hcs c1 c4 hA hL hNx
  go_enter Tryz.func8, Tryz.ntmps8
  go_wp2_with fail
  refine HC.out.mono ?_
  rintro e w1 ⟨rfl, g1⟩
  have d1 := g1.cell' C1.out
  have B1 := Lib.hid g1
  clear HC g1
  go_wp2_with fail
  clear d1
  go_loopw [5, 6, 7] (fun v a' k' wr => ∃ (q : M) (j k c' : Nat) (a : Option Addr) (p : List (List Cel)), v = .slice a k c' ∧ a' = .int .i64 (j : Int) ∧ k' = .int .i64 (k : Int) ∧ k ≤ N ∧ j ≤ n ∧ Hid (k + lenM q = N) ∧ Hid (wfMX q) ∧ Hid (l.drop j = flatM q ++ []) ∧ Hid (p ++ valsM q = valsM x) ∧ Hid (LOwn wr w.heap.size a k c' p) ∧ Hid (Bel w wr)) (fun _ _ k' _ => N - (intOf k').toNat)
  case atStart => exact ⟨x, 1, 0, 0, none, [], rfl, rfl, rfl, Nat.zero_le _, by omega, Lib.hid (by rw [HNx.out]; omega), HW, Lib.hid (by rw [List.append_nil]; exact HD.out), Lib.hid rfl, Lib.hid (LOwn.nil _ _), B1⟩
  case round =>
    obtain ⟨q, j, k, c', a, p, rfl, rfl, rfl, hk, hj, hkq, hwq, hdq, hpq, hown, hb⟩ := hrel
    rename World => W0
    have d4 := hb.out.cell' C4.out
    cases q with
    | nil =>
      have hkn := hkq.out
      rw [lenM, Nat.add_zero] at hkn
      subst hkn
      have hpp := hpq.out
      rw [valsM, List.append_nil] at hpp
      subst hpp
      clear hkq hwq hdq hpq
      go_wp2
      go_ret2
      exact ⟨⟨a, k, c', rfl, hown.out.arg.1, hown.out.arg.2⟩, hb.out⟩
    | cons ky v q =>
      have d1 := hb.out.cell' C1.out
      have hd2 := hdq.out
      rw [flatM, List.cons_append, List.append_assoc] at hd2
      obtain ⟨hi, hck, hd3⟩ := cell_of hd2
      clear hd2
      have hd2 := hd3
      obtain ⟨qq, hw2⟩ := hwq.out
      rw [wfM, Bool.and_eq_true, Bool.and_eq_true, Bool.and_eq_true] at hw2
      obtain ⟨e1, e2, e3⟩ := nx_flat hd3 hw2.1.2
      have hwq2 : Hid (wfMX q) := Lib.hid ⟨_, hw2.2⟩
      obtain ⟨f, hf⟩ : ∃ f, j + 1 = f := ⟨_, rfl⟩
      rw [hf] at e1 e2 e3 hd2
      have hfl : (l.drop f).take (flat v).length = flat v := by rw [hd2]; exact List.take_left
      have hvp := flat_pos v
      have hkq2 : Hid (k + 1 + lenM q = N) := Lib.hid (by have := hkq.out; rw [lenM] at this; omega)
      have hkN : k < N := by have := hkq2.out; omega
      have hpq2 : Hid ((p ++ [flat v]) ++ valsM q = valsM x) := Lib.hid (by rw [← hpq.out, valsM, List.append_assoc]; rfl)
      have HNx2 := next_all l l.length (some ⟨b, off, none⟩) n c f (by omega) (by omega) hn
      rw [e1] at HNx2
      obtain ⟨d, hdv⟩ : ∃ d, (flat v).length = d := ⟨_, rfl⟩
      rw [hdv] at HNx2 e2 e3 hfl hvp
      obtain ⟨J, hJ⟩ : ∃ J, f + d = J := ⟨_, rfl⟩
      rw [hJ] at HNx2 e2 e3
      have HN := Lib.hid HNx2
      have hP := part_any l (some ⟨b, off, none⟩) n c f d J hJ.symm (by omega) hn
      rw [hfl] at hP
      have HP := Lib.hid hP
      have hdq2 := Lib.hid e2
      have hJn : J ≤ n := by omega
      have hvp2 := Lib.hid hvp
      have hfj : Hid (f = j + 1) := Lib.hid hf.symm
      have hjn : j < n := by omega
      have q2 : Hid (k + 1 ≤ 1099511627776) := Lib.hid (by omega)
      obtain rfl := hf
      clear hkq hwq hdq hpq hd2 hck hd3 hw2 e1 e2 HNx2 hJ hfl hvp hdv hP
      go_wp2_with fail
      refine (HN.out W0 (HA.out.on hb.out)).mono ?_
      rintro e w2 ⟨rfl, g2⟩
      go_wp2_with fail
      refine (HP.out w2 (HA.out.on (Bel.trans hb.out g2))).mono ?_
      rintro e w3 ⟨⟨o2, c2, rfl, hC, hdc, hbl⟩, g3⟩
      have oA := Lib.hid ((hown.out.on g2).on (g3.alloc (.cells #[.slice o2 d c2] 22)))
      have bA := Lib.hid ((Bel.trans (Bel.trans hb.out g2) g3).alloc (.cells #[.slice o2 d c2] 22))
      have cA := Lib.hid (hC.on ((Bel.refl w3).alloc (.cells #[.slice o2 d c2] 22)))
      have hap := Lib.hid (fun (_ : 0 < d) => new_apart (hown.out.on g2) hbl)
      have hdc2 := Lib.hid hdc
      have q1 := Lib.hid (cell_new1 w3 (.slice o2 d c2) 22)
      clear hown hb g2 g3 hC hdc hbl
      go_wp2_with (at_builtin; refine list_appL _ _ rfl rfl rfl rfl bA.out oA.out q1.out cA.out hdc2.out hap.out q2.out ?_; intro o4 c4 w4 g4 k4; refine Hid.out ?_)
      refine Lib.hid ?_
      clear bA oA q1 cA hap
      go_wp2
      go_round
      case rel => exact ⟨q, J, k + 1, c4, o4, p ++ [flat v], rfl, rfl, by go_num, by omega, by omega, hkq2, hwq2, hdq2, hpq2, k4, g4⟩
      case measure => simp [intOf]; omega
theorem items_bad (l : List Cel) (hx : chk l ≠ 0) (o : Option Addr) (n c : Nat) (hn : n ≤ 1000000) (w : World) (hL : Lad w) (hA : CArg w o n l) :
    Calls Tryz.prog 8 #[.slice o n c] w fun e w' => LRes w' e [] (chk l) ∧ Bel w w' := by
  have HC := Lib.hid (check_any l o n c hn w hL hA)
  generalize chk l = E at *
  clear hA
  go_enter Tryz.func8, Tryz.ntmps8
  go_wp2_with fail
  refine HC.out.mono ?_
  rintro e w1 ⟨rfl, g1⟩
  go_wp2_with fail
  go_ret2
  exact ⟨LRes.nil _ _, g1⟩
theorem items_type (l : List Cel) (t : V) (hp : par l = some t) (hz : chkT l t = 0) (hm : ∀ x, t ≠ .map x) (hm2 : ∀ x, t ≠ .list x) (o : Option Addr) (n c : Nat) (hn : n ≤ 1000000) (w : World) (hL : Lad w) (hA : CArg w o n l) :
    Calls Tryz.prog 8 #[.slice o n c] w fun e w' => LRes w' e [] 7 ∧ Bel w w' := by
  have hchk : chk l = 0 := by unfold chk; rw [hp]; exact hz
  have hHC := check_any l o n c hn w hL hA
  rw [hchk] at hHC
  have HC := Lib.hid hHC
  obtain ⟨hw, hlf⟩ := par_some.1 hp
  have hl := hA.1
  have hpos := head_of hlf
  obtain ⟨b, off, rfl, hcs⟩ := hA.2.2 (by omega)
  obtain ⟨c1, _, _, _⟩ := hcs 0 hpos
  obtain ⟨K, hK⟩ : ∃ K, l[0].k = K := ⟨_, rfl⟩
  rw [hK] at c1
  have hne : K = 1 ∨ K = 2 ∨ K = 3 ∨ K = 4 := by
    clear hcs c1 hHC HC
    subst hlf
    cases t with
    | map x => exact absurd rfl (hm x)
    | list x => exact absurd rfl (hm2 x)
    | _ =>
      simp [flat] at hK
      omega
  simp only [Nat.zero_mul, Nat.add_zero] at c1
  have C1 := Lib.hid c1
  clear hchk hHC hw hp hz hcs c1 hA hL hK hlf hm hm2
  rcases hne with rfl | rfl | rfl | rfl
  all_goals
    go_enter Tryz.func8, Tryz.ntmps8
    go_wp2_with fail
    refine HC.out.mono ?_
    rintro e w1 ⟨rfl, g1⟩
    have d1 := g1.cell' C1.out
    go_wp2_with fail
    go_ret2
    exact ⟨LRes.nil _ _, g1⟩
theorem items_any (l : List Cel) (o : Option Addr) (n c : Nat) (hn : n ≤ 1000000) (w : World) (hL : Lad w) (hA : CArg w o n l) :
    Calls Tryz.prog 8 #[.slice o n c] w fun e w' => LRes w' e (itmB l) (itmE l) ∧ Bel w w' := by
  by_cases hx : chk l = 0
  · obtain ⟨t, hp, hz⟩ := chk_ok hx
    have h1 : itmB l = itmV t := by unfold itmB; rw [hp]; exact if_pos hz
    have h2 : itmE l = (match some t with
      | some (.map _) => 0
      | some (.list _) => 0
      | _ => 7) := by unfold itmE; rw [if_pos hx, hp]
    rw [h1, h2]
    cases t with
    | map x => exact items_map l x hp hz o n c hn w hL hA
    | list x => exact items_list l x hp hz o n c hn w hL hA
    | _ => exact items_type l _ hp hz (fun x e => by cases e) (fun x e => by cases e) o n c hn w hL hA
  · have h1 : itmB l = [] := by
      unfold itmB
      unfold chk at hx
      split
      · next x e => rw [e] at hx; exact if_neg hx
      · rfl
    have h2 : itmE l = chk l := by unfold itmE; rw [if_neg hx]
    rw [h1, h2]
    exact items_bad l hx o n c hn w hL hA
/-- What Get answers. -/
def getM (key : ByteArray) : List ByteArray → List (List Cel) → Option (List Cel)
  | k :: ks, v :: vs => if k = key then some v else getM key ks vs
  | _, _ => none
def getB (l : List Cel) (key : ByteArray) : List Cel := (getM key (keyB l) (itmB l)).getD []
def getE (l : List Cel) (key : ByteArray) : Int := if keyE l = 0 then (match getM key (keyB l) (itmB l) with
  | some _ => 0
  | none => 5) else keyE l
theorem getM_drop {key : ByteArray} {ks : List ByteArray} {vs : List (List Cel)} {k : Nat} (h1 : k < ks.length) (h2 : k < vs.length) : getM key (ks.drop k) (vs.drop k) = if ks[k] = key then some vs[k] else getM key (ks.drop (k + 1)) (vs.drop (k + 1)) := by
  rw [List.drop_eq_getElem_cons h1, List.drop_eq_getElem_cons h2, getM]
theorem key_itm {l : List Cel} (h : keyE l = 0) : (keyB l).length = (itmB l).length ∧ itmE l = 0 := by
  unfold keyE at h
  split at h
  · next hx =>
    obtain ⟨t, hp, hz⟩ := chk_ok hx
    rw [hp] at h
    cases t with
    | map x =>
      refine ⟨?_, by unfold itmE; rw [if_pos hx, hp]⟩
      unfold keyB itmB
      rw [hp]
      show (if chkT l (.map x) = 0 then keysM x else []).length = (if chkT l (.map x) = 0 then itmV (.map x) else []).length
      rw [if_pos hz, if_pos hz, keysM_len]
      exact (valsM_len x).symm
    | _ => cases h
  · next hx => exact absurd h hx
theorem keyE_no {l : List Cel} (h : keyE l ≠ 0) : keyB l = [] := by
  unfold keyE at h
  unfold keyB
  split
  · next x hp =>
    split at h
    · rw [hp] at h
      exact absurd rfl h
    · next hx =>
      unfold chk at hx
      rw [hp] at hx
      exact if_neg hx
  · rfl
end Val
end Go.Proofs.YtegfcmnbljdcpaaGreatDoor

/-
  Layer 6, the reference: Get.
-/
namespace Go.Proofs.YtegfcmnbljdcpaaGreatDoor
open Go.RowKit Go.ChangeShapes Go.WideShapes
namespace Val

theorem get_no (l : List Cel) (key : ByteArray) (hk : keyE l ≠ 0) (o : Option Addr) (n c : Nat) (hn : n ≤ 1000000) (w : World) (hL : Lad w) (hA : CArg w o n l) :
    Calls Tryz.prog 12 #[.slice o n c, .string key] w fun e w' => CRes w' e [] (keyE l) ∧ Bel w w' := by
  have hC := keys_any l o n c hn w hL hA
  rw [keyE_no hk] at hC
  have HC := Lib.hid hC
  generalize keyE l = E at *
  clear hA hC
  go_enter Tryz.func12, Tryz.ntmps12
  go_wp2_with fail
  refine HC.out.mono ?_
  rintro e w1 ⟨⟨o1, n1, c1, rfl, _, _⟩, g1⟩
  go_wp2_with fail
  go_ret2
  exact ⟨CRes.nil _ _, g1⟩
set_option maxHeartbeats 1000000 in
theorem get_yes (l : List Cel) (key : ByteArray) (hk : keyE l = 0) (o : Option Addr) (n c : Nat) (hn : n ≤ 1000000) (w : World) (hL : Lad w) (hA : CArg w o n l) :
    Calls Tryz.prog 12 #[.slice o n c, .string key] w fun e w' => CRes w' e ((getM key (keyB l) (itmB l)).getD []) (match getM key (keyB l) (itmB l) with
      | some _ => 0
      | none => 5) ∧ Bel w w' := by
  have HC := Lib.hid (keys_any l o n c hn w hL hA)
  have HI := Lib.hid (fun (W : World) (h : Bel w W) => items_any l o n c hn W (hL.on h) (hA.on h))
  obtain ⟨h1, h2⟩ := key_itm hk
  rw [hk] at HC
  rw [h2] at HI
  obtain ⟨ks, hks⟩ : ∃ ks, keyB l = ks := ⟨_, rfl⟩
  obtain ⟨vs, hvs⟩ : ∃ vs, itmB l = vs := ⟨_, rfl⟩
  rw [hks] at HC h1 ⊢
  rw [hvs] at HI h1 ⊢
  have hkn : ∀ k, ks.length = k → k ≤ 1000000 := by
    intro k e
    have := hA.1
    rw [← e, ← hks]
    unfold keyB
    split
    · next x hp =>
      obtain ⟨_, hlf⟩ := par_some.1 hp
      split
      · have h3 := lenM_le x
        have h4 := congrArg List.length hlf
        simp only [flat, List.length_cons] at h4
        rw [keysM_len]
        omega
      · simp
    · simp
  obtain ⟨R, hR⟩ : ∃ R, getM key ks vs = R := ⟨_, rfl⟩
  rw [hR]
  have HR := Lib.hid hR
  have H1 := Lib.hid h1
  have HKN := Lib.hid hkn
  clear hR hks hvs h1 h2 hk hA hL hkn
  go_enter Tryz.func12, Tryz.ntmps12
  go_wp2_with fail
  refine HC.out.mono ?_
  rintro e w1 ⟨⟨o1, n1, c1, rfl, hS, _⟩, g1⟩
  have B1 := Lib.hid g1
  have HS := Lib.hid hS
  clear HC g1 hS
  go_wp2_with fail
  refine (HI.out w1 B1.out).mono ?_
  rintro e w2 ⟨⟨o2, n2, c2, rfl, hV, _⟩, g2⟩
  have HV := Lib.hid hV
  have HS2 := Lib.hid (HS.out.on g2)
  have B2 := Lib.hid (Bel.trans B1.out g2)
  have hl1 := hV.1
  have hl2 := HS.out.1
  have hl3 := H1.out
  have hl4 := HKN.out n1 hl2
  obtain rfl : n1 = n2 := by omega
  clear HI g2 hV HS B1
  go_wp2_with fail
  go_loop [10] (fun i => ∃ k : Nat, i = .int .i64 (k : Int) ∧ k ≤ n1 ∧ Hid (getM key (ks.drop k) (vs.drop k) = R)) (fun i => n1 - (intOf i).toNat)
  case atStart => exact ⟨0, rfl, Nat.zero_le _, HR⟩
  case round =>
    obtain ⟨k, rfl, hk, hr⟩ := hrel
    by_cases hlt : k < n1
    · have hk1 : k < ks.length := by omega
      have hk2 : k < vs.length := by omega
      obtain ⟨a1, rfl, hc1⟩ := HS2.out.2 k hk1
      obtain ⟨a2, p, m, d, rfl, hc2, hC2, hmd⟩ := HV.out.2 k hk2
      have hst := hr.out
      rw [getM_drop hk1 hk2] at hst
      obtain ⟨x, hx⟩ : ∃ x, ks[k] = x := ⟨_, rfl⟩
      obtain ⟨y, hy⟩ : ∃ y, vs[k] = y := ⟨_, rfl⟩
      rw [hx] at hc1 hst
      rw [hy] at hC2 hst
      have HC2 := Lib.hid hC2
      clear hx hy hr hC2
      by_cases he : x = key
      · rw [if_pos he] at hst
        subst he hst
        go_wp2
        go_ret2
        exact ⟨⟨p, m, d, rfl, HC2.out, hmd⟩, B2.out⟩
      · rw [if_neg he] at hst
        have hr2 := Lib.hid hst
        have hne : (x.toList == key.toList) = false := by
          simp only [beq_eq_false_iff_ne]
          intro h
          exact he (by rw [← str_back x, h, str_back key])
        clear hst
        go_wp2
        go_round
        case rel => exact ⟨k + 1, by go_num, by omega, hr2⟩
        case measure => simp [intOf]; omega
    · obtain rfl : k = n1 := by omega
      have hst := hr.out
      rw [List.drop_of_length_le (by omega), getM] at hst
      · subst hst
        clear hr
        go_wp2
        go_ret2
        exact ⟨CRes.nil _ _, B2.out⟩
      · intros; simp_all
theorem get_any (l : List Cel) (key : ByteArray) (o : Option Addr) (n c : Nat) (hn : n ≤ 1000000) (w : World) (hL : Lad w) (hA : CArg w o n l) :
    Calls Tryz.prog 12 #[.slice o n c, .string key] w fun e w' => CRes w' e (getB l key) (getE l key) ∧ Bel w w' := by
  by_cases hk : keyE l = 0
  · have h := get_yes l key hk o n c hn w hL hA
    unfold getE getB
    rw [if_pos hk]
    exact h
  · have h := get_no l key hk o n c hn w hL hA
    have h1 : getB l key = [] := by
      unfold getB
      rw [keyE_no hk]
      cases itmB l <;> rfl
    unfold getE
    rw [if_neg hk, h1]
    exact h
end Val
end Go.Proofs.YtegfcmnbljdcpaaGreatDoor

/-
  Layer 6, the reference: Path.
-/
namespace Go.Proofs.YtegfcmnbljdcpaaGreatDoor
open Go.RowKit Go.ChangeShapes Go.WideShapes
namespace Val

theorem valsL_le : ∀ (x : L) (y : List Cel), y ∈ valsL x → y.length ≤ (flatL x).length
  | .nil, y, h => by cases h
  | .cons v r, y, h => by
    rw [valsL] at h
    rw [flatL, List.length_append]
    rcases List.mem_cons.1 h with rfl | h
    · omega
    · have := valsL_le r y h
      omega
theorem valsM_le : ∀ (x : M) (y : List Cel), y ∈ valsM x → y.length ≤ (flatM x).length
  | .nil, y, h => by cases h
  | .cons k v r, y, h => by
    rw [valsM] at h
    rw [flatM, List.length_cons, List.length_append]
    rcases List.mem_cons.1 h with rfl | h
    · omega
    · have := valsM_le r y h
      omega
theorem itm_le {l y : List Cel} (h : y ∈ itmB l) : y.length ≤ l.length := by
  unfold itmB at h
  split at h
  · next t hp =>
    obtain ⟨_, hlf⟩ := par_some.1 hp
    split at h
    · rw [hlf]
      cases t with
      | list x =>
        have := valsL_le x y h
        simp only [flat, List.length_cons]
        omega
      | map x =>
        have := valsM_le x y h
        simp only [flat, List.length_cons]
        omega
      | _ => cases h
    · cases h
  · cases h
theorem getM_mem {key : ByteArray} : ∀ {ks : List ByteArray} {vs : List (List Cel)} {y : List Cel}, getM key ks vs = some y → y ∈ vs
  | [], vs, y, h => by cases vs <;> cases h
  | k :: ks, [], y, h => by cases h
  | k :: ks, v :: vs, y, h => by
    rw [getM] at h
    split at h
    · cases h
      exact List.mem_cons_self ..
    · exact List.mem_cons_of_mem _ (getM_mem h)
theorem get_le (l : List Cel) (key : ByteArray) : (getB l key).length ≤ l.length := by
  unfold getB
  cases h : getM key (keyB l) (itmB l) with
  | none => exact Nat.zero_le _
  | some y => exact itm_le (getM_mem h)
/-- What Path answers behind its check. -/
def pathR : List Cel → List ByteArray → List Cel × Int
  | l, [] => (l, 0)
  | l, p :: ps => if getE l p = 0 then pathR (getB l p) ps else ([], getE l p)
def pathB (l : List Cel) (ps : List ByteArray) : List Cel := if chk l = 0 then (pathR l ps).1 else []
def pathE (l : List Cel) (ps : List ByteArray) : Int := if chk l = 0 then (pathR l ps).2 else chk l
theorem path_no (l : List Cel) (hx : chk l ≠ 0) (o : Option Addr) (n c : Nat) (hn : n ≤ 1000000) (o2 : Option Addr) (n2 c2 : Nat) (w : World) (hL : Lad w) (hA : CArg w o n l) :
    Calls Tryz.prog 14 #[.slice o n c, .slice o2 n2 c2] w fun e w' => CRes w' e [] (chk l) ∧ Bel w w' := by
  have HC := Lib.hid (check_any l o n c hn w hL hA)
  generalize chk l = E at *
  clear hA
  go_enter Tryz.func14, Tryz.ntmps14
  go_wp2_with fail
  refine HC.out.mono ?_
  rintro e w1 ⟨rfl, g1⟩
  go_wp2_with fail
  go_ret2
  exact ⟨CRes.nil _ _, g1⟩
set_option maxHeartbeats 1000000 in
theorem path_yes (l : List Cel) (ps : List ByteArray) (hx : chk l = 0) (o : Option Addr) (n c : Nat) (hn : n ≤ 1000000) (o2 : Option Addr) (n2 c2 : Nat) (hn2 : n2 ≤ 1000000) (w : World) (hL : Lad w) (hA : CArg w o n l) (hP : SlArg w o2 n2 ps) :
    Calls Tryz.prog 14 #[.slice o n c, .slice o2 n2 c2] w fun e w' => CRes w' e (pathR l ps).1 (pathR l ps).2 ∧ Bel w w' := by
  have hC := check_any l o n c hn w hL hA
  rw [hx] at hC
  have HC := Lib.hid hC
  have HQ := Lib.hid (fun (W : World) (h : Bel w W) => part_any l o n c 0 n n (by omega) (Nat.le_refl _) hn W (hA.on h))
  have hl := hA.1
  rw [show (l.drop 0).take n = l by rw [List.drop_zero, List.take_of_length_le (by omega)]] at HQ
  rw [show (((0 : Nat) : Int)) = 0 from rfl] at HQ
  have HP := Lib.hid hP
  have HL := Lib.hid hL
  have hlp := hP.1
  obtain ⟨R, hR⟩ : ∃ R, pathR l ps = R := ⟨_, rfl⟩
  rw [hR]
  have HR := Lib.hid hR
  clear hC hA hP hL hx hR
  go_enter Tryz.func14, Tryz.ntmps14
  go_wp2_with fail
  refine HC.out.mono ?_
  rintro e w1 ⟨rfl, g1⟩
  have B1 := Lib.hid g1
  clear HC g1
  go_wp2_with fail
  refine (HQ.out w1 B1.out).mono ?_
  rintro e w2 ⟨⟨o3, c3, rfl, hC3, hc3, _⟩, g2⟩
  have B2 := Lib.hid (Bel.trans B1.out g2)
  have HC3 := Lib.hid hC3
  clear HQ g2 B1 hC3
  go_wp2_with fail
  go_loopw [6, 7, 8] (fun e' v i wr => ∃ (k m d : Nat) (a : Option Addr) (x : List Cel), e' = .int .i64 0 ∧ v = .slice a m d ∧ i = .int .i64 (k : Int) ∧ k ≤ n2 ∧ m ≤ d ∧ m ≤ 1000000 ∧ Hid (CArg wr a m x) ∧ Hid (pathR x (ps.drop k) = R) ∧ Hid (Bel w wr)) (fun _ _ i _ => n2 - (intOf i).toNat)
  case atStart => exact ⟨0, n, c3, o3, l, rfl, rfl, rfl, Nat.zero_le _, hc3, hn, HC3, HR, B2⟩
  case round =>
    obtain ⟨k, m, d, a, x, rfl, rfl, rfl, hk, hmd, hm, hCx, hr, hb⟩ := hrel
    rename World => W0
    clear HC3
    by_cases hlt : k < n2
    · have hk1 : k < ps.length := by omega
      obtain ⟨a1, rfl, hc1⟩ := (HP.out.on hb.out).2 k hk1
      have hst := hr.out
      rw [List.drop_eq_getElem_cons hk1, pathR] at hst
      obtain ⟨y, hy⟩ : ∃ y, ps[k] = y := ⟨_, rfl⟩
      rw [hy] at hc1 hst
      have hG := get_any x y a m d hm W0 (HL.out.on hb.out) hCx.out
      have hxl := hCx.out.1
      have hgl := get_le x y
      obtain ⟨gB, hgB⟩ : ∃ gB, getB x y = gB := ⟨_, rfl⟩
      obtain ⟨gE, hgE⟩ : ∃ gE, getE x y = gE := ⟨_, rfl⟩
      rw [hgB, hgE] at hG hst
      rw [hgB] at hgl
      have HG := Lib.hid hG
      clear hy hr hG hCx hgB hgE
      by_cases he : gE = 0
      · rw [if_pos he] at hst
        subst he
        have hr2 := Lib.hid hst
        clear hst
        go_wp2_with fail
        refine HG.out.mono ?_
        rintro e w3 ⟨⟨o4, n4, c4, rfl, h4, h5⟩, g3⟩
        have H4 := Lib.hid h4
        have h6 := h4.1
        have hn4 : n4 ≤ 1000000 := by omega
        have B3 := Lib.hid (Bel.trans hb.out g3)
        clear h4 h6 g3 hb HG
        go_wp2_with fail
        go_round
        case rel => exact ⟨k + 1, n4, c4, o4, gB, rfl, rfl, by go_num, by omega, h5, hn4, H4, hr2, B3⟩
        case measure => simp [intOf]; omega
      · rw [if_neg he] at hst
        subst hst
        go_wp2_with fail
        refine HG.out.mono ?_
        rintro e w3 ⟨⟨o4, n4, c4, rfl, h4, h5⟩, g3⟩
        have B3 := Lib.hid (Bel.trans hb.out g3)
        clear h4 g3 hb HG
        go_wp2_with fail
        go_ret2
        exact ⟨CRes.nil _ _, B3.out⟩
    · obtain rfl : k = n2 := by omega
      have hst := hr.out
      rw [List.drop_of_length_le (by omega), pathR] at hst
      subst hst
      clear hr
      go_wp2
      go_ret2
      exact ⟨⟨a, m, d, rfl, hCx.out, hmd⟩, hb.out⟩
theorem path_any (l : List Cel) (ps : List ByteArray) (o : Option Addr) (n c : Nat) (hn : n ≤ 1000000) (o2 : Option Addr) (n2 c2 : Nat) (hn2 : n2 ≤ 1000000) (w : World) (hL : Lad w) (hA : CArg w o n l) (hP : SlArg w o2 n2 ps) :
    Calls Tryz.prog 14 #[.slice o n c, .slice o2 n2 c2] w fun e w' => CRes w' e (pathB l ps) (pathE l ps) ∧ Bel w w' := by
  unfold pathB pathE
  by_cases hx : chk l = 0
  · rw [if_pos hx, if_pos hx]
    exact path_yes l ps hx o n c hn o2 n2 c2 hn2 w hL hA hP
  · rw [if_neg hx, if_neg hx]
    exact path_no l hx o n c hn o2 n2 c2 w hL hA
end Val
end Go.Proofs.YtegfcmnbljdcpaaGreatDoor

/-
  Layer 6: two rows built side by side (names and values).
-/
namespace Go.Proofs.YtegfcmnbljdcpaaGreatDoor
open Go.RowKit Go.ChangeShapes Go.WideShapes
namespace Val

/-- Names and values, each in a row of its own, behind the world V. -/
def Rows (V w : World) (aN : Option Addr) (mN cN : Nat) (ps : List ByteArray) (aV : Option Addr) (mV cV : Nat) (qs : List Value) : Prop :=
  w.ownsRow V.heap.size 9 1 (.slice aN mN cN) mN (encS ps) ∧ w.ownsRow V.heap.size 22 1 (.slice aV mV cV) mV qs ∧
  (∀ b, (Value.slice aN mN cN).ownBlock = some b → (Value.slice aV mV cV).ownBlock ≠ some b) ∧ Bel V w
theorem Rows.nil (V w : World) (h : Bel V w) : Rows V w none 0 0 [] none 0 0 [] := ⟨World.ownsRow_nil _ _ _ _, World.ownsRow_nil _ _ _ _, (fun b e => by cases e), h⟩
theorem Rows.on {V w w' : World} {aN aV : Option Addr} {mN cN mV cV : Nat} {ps : List ByteArray} {qs : List Value} (h : Rows V w aN mN cN ps aV mV cV qs) (b : Bel w w') : Rows V w' aN mN cN ps aV mV cV qs :=
  ⟨own_on h.1 b, own_on h.2.1 b, h.2.2.1, Bel.trans h.2.2.2 b⟩
/-- A string behind the names. -/
theorem list_appN {V Y : World} {mN cN mV cV : Nat} {aN aV : Option Addr} {ps : List ByteArray} {qs : List Value} {x : ByteArray} {b : Nat} {ops : Array Oper} {rest : List Oper} {o : Oper} {a : Act} {Q : Exit → Act → World → Prop} (s y : Operand)
    (ho : o.op = .call { callee := .builtin .append, args := #[s, y], argTypes := #[23, 23] }) (hgd : o.guard = none) (hs : a.eval s = .slice aN mN cN) (hx : a.eval y = .slice (some ⟨b, 0, none⟩) 1 1)
    (hR : Rows V Y aN mN cN ps aV mV cV qs) (h2 : ∀ j u, [Value.string x][j]? = some u → Y.cell? ((⟨b, 0, none⟩ : Addr).add j) = some u) (hm : mN + 1 ≤ 1099511627776)
    (h : ∀ o3 c3 w', Hid (Rows V w' o3 (mN + 1) c3 (ps ++ [x]) aV mV cV qs) → wpList Tryz.prog ops Q rest (a.put o.dst (.slice o3 (mN + 1) c3)) w') : wpList Tryz.prog ops Q (o :: rest) a Y := by
  obtain ⟨i0, hi, hz0, hz1, hz2⟩ := info_parts info_str
  obtain ⟨h1, hV, hd, hb⟩ := hR
  refine wpList_append_own_at _ hgd s y 23 ho V.heap.size 9 i0 _ 1 16 Tryz.underlying23 hi hz0 hz1 hz2 rfl (by decide) _ mN _ hs h1 ⟨b, 0, none⟩ 1 1 [.string x] hx rfl h2 (fun u hu => by simp at hu; subst hu; rfl) (by unfold maxLen; omega) (by omega) hb.size ?_
  intro v' w' ho' hg _ hat
  obtain ⟨o3, c3, rfl⟩ := own_shape ho'
  have hne : (Value.slice aV mV cV).ownBlock = none ∨ (Value.slice aV mV cV).ownBlock ≠ (Value.slice aN mN cN).ownBlock := by
    cases hv : (Value.slice aN mN cN).ownBlock with
    | none =>
      cases hw : (Value.slice aV mV cV).ownBlock with
      | none => exact .inl rfl
      | some q => exact .inr (by simp)
    | some q => exact .inr (hd q hv)
  refine h o3 c3 w' (Lib.hid ⟨by rw [show encS (ps ++ [x]) = encS ps ++ [.string x] by simp [encS]]; exact ho', hV.kept hg hne, fun q e => ?_, own_bel h1 hb hg⟩)
  rcases hat with hat | hat
  · rw [hat] at e
    exact hd q e
  · rw [hat] at e
    cases e
    intro hv
    have := (hV.lt _ hv).2
    omega
/-- A value behind the values. -/
theorem list_appV {V Y : World} {mN cN mV cV : Nat} {aN aV : Option Addr} {ps : List ByteArray} {qs : List Value} {p : Option Addr} {m c : Nat} {b : Nat} {ops : Array Oper} {rest : List Oper} {o : Oper} {a : Act} {Q : Exit → Act → World → Prop} (s y : Operand)
    (ho : o.op = .call { callee := .builtin .append, args := #[s, y], argTypes := #[27, 27] }) (hgd : o.guard = none) (hs : a.eval s = .slice aV mV cV) (hx : a.eval y = .slice (some ⟨b, 0, none⟩) 1 1)
    (hR : Rows V Y aN mN cN ps aV mV cV qs) (h2 : ∀ j u, [Value.slice p m c][j]? = some u → Y.cell? ((⟨b, 0, none⟩ : Addr).add j) = some u) (hm : mV + 1 ≤ 1099511627776)
    (h : ∀ o3 c3 w', Hid (Rows V w' aN mN cN ps o3 (mV + 1) c3 (qs ++ [.slice p m c])) → wpList Tryz.prog ops Q rest (a.put o.dst (.slice o3 (mV + 1) c3)) w') : wpList Tryz.prog ops Q (o :: rest) a Y := by
  obtain ⟨i0, hi, hz0, hz1, hz2⟩ := info_parts info_sl
  obtain ⟨h1, hV, hd, hb⟩ := hR
  refine wpList_append_own_at _ hgd s y 27 ho V.heap.size 22 i0 _ 1 24 Tryz.underlying27 hi hz0 hz1 hz2 rfl (by decide) _ mV _ hs hV ⟨b, 0, none⟩ 1 1 [.slice p m c] hx rfl h2 (fun u hu => by simp at hu; subst hu; rfl) (by unfold maxLen; omega) (by omega) hb.size ?_
  intro v' w' ho' hg _ hat
  obtain ⟨o3, c3, rfl⟩ := own_shape ho'
  have hne : (Value.slice aN mN cN).ownBlock = none ∨ (Value.slice aN mN cN).ownBlock ≠ (Value.slice aV mV cV).ownBlock := by
    cases hv : (Value.slice aN mN cN).ownBlock with
    | none => exact .inl rfl
    | some q => exact .inr (fun e => hd q hv e.symm)
  refine h o3 c3 w' (Lib.hid ⟨h1.kept hg hne, ho', fun q e => ?_, own_bel hV hb hg⟩)
  rcases hat with hat | hat
  · rw [hat]
    exact hd q e
  · rw [hat]
    intro hv
    have := (h1.lt _ e).2
    have := Option.some.inj hv
    omega
/-- The values that a row names. -/
def Itms (V : World) (qs : List Value) (ls : List (List Cel)) : Prop := qs.length = ls.length ∧ ∀ i (h : i < ls.length) (h' : i < qs.length), ∃ p m d, qs[i] = .slice p m d ∧ CArg V p m ls[i] ∧ m ≤ d
theorem Itms.nil (V : World) : Itms V [] [] := ⟨rfl, fun i h => absurd h (Nat.not_lt_zero i)⟩
theorem Itms.add {V : World} {qs : List Value} {ls : List (List Cel)} (h : Itms V qs ls) {p : Option Addr} {m d : Nat} {x : List Cel} (hx : CArg V p m x) (hm : m ≤ d) : Itms V (qs ++ [.slice p m d]) (ls ++ [x]) := by
  refine ⟨by simp [h.1], fun i a a' => ?_⟩
  have h1 := h.1
  rcases Nat.lt_or_ge i ls.length with hl | hl
  · obtain ⟨p', m', d', e, g', q'⟩ := h.2 i hl (by omega)
    exact ⟨p', m', d', by rw [List.getElem_append_left (by omega)]; exact e, by rw [List.getElem_append_left hl]; exact g', q'⟩
  · have hi0 : i = ls.length := by simp at a; omega
    subst hi0
    exact ⟨p, m, d, by simp [← h1], by simpa using hx, hm⟩
theorem Rows.args {V w : World} {aN aV : Option Addr} {mN cN mV cV : Nat} {ps : List ByteArray} {qs : List Value} {ls : List (List Cel)} (h : Rows V w aN mN cN ps aV mV cV qs) (hi : Itms V qs ls) : SlArg w aN mN ps ∧ LArg w aV mV ls := by
  obtain ⟨h1, hV, _, hb⟩ := h
  refine ⟨own_sarg h1, ?_⟩
  have hl : qs.length = mV := by have := hV.1; omega
  have h2 := hi.1
  refine ⟨by omega, fun i hi' => ?_⟩
  rcases hV.2 with ⟨hv, hk⟩ | ⟨g, cap, cur, hv, _, _, _⟩
  · omega
  · simp only [Value.slice.injEq] at hv
    obtain ⟨rfl, -, rfl⟩ := hv
    have hq : i < qs.length := by omega
    obtain ⟨p, m, d, e, g1, q⟩ := hi.2 i hi' hq
    exact ⟨_, p, m, d, rfl, hV.cells rfl i _ (by rw [List.getElem?_eq_getElem hq, e]), g1.on hb, q⟩
end Val
end Go.Proofs.YtegfcmnbljdcpaaGreatDoor

/-
  Layer 6, the reference: Put.
-/
namespace Go.Proofs.YtegfcmnbljdcpaaGreatDoor
open Go.RowKit Go.ChangeShapes Go.WideShapes
namespace Val

/-- What Put's loop builds of what is left. -/
def putL (key : ByteArray) (x : List Cel) : Bool → List ByteArray → List (List Cel) → List (ByteArray × List Cel)
  | d, k :: ks, v :: vs =>
    if d = false ∧ ¬ k.toList < key.toList then (key, x) :: (if k = key then putL key x true ks vs else (k, v) :: putL key x true ks vs)
    else if k = key then putL key x d ks vs else (k, v) :: putL key x d ks vs
  | d, _, _ => if d then [] else [(key, x)]
def putN (l : List Cel) (key : ByteArray) (x : List Cel) : List ByteArray := (putL key x false (keyB l) (itmB l)).map Prod.fst
def putV (l : List Cel) (key : ByteArray) (x : List Cel) : List (List Cel) := (putL key x false (keyB l) (itmB l)).map Prod.snd
def putB (l : List Cel) (key : ByteArray) (x : List Cel) : List Cel := if keyE l = 0 then (if chk x = 0 then mapB (putN l key x) (putV l key x) else []) else []
def putE (l : List Cel) (key : ByteArray) (x : List Cel) : Int := if keyE l = 0 then (if chk x = 0 then mapE (putN l key x) (putV l key x) else chk x) else keyE l
theorem putL_nil (key : ByteArray) (x : List Cel) (d : Bool) (vs : List (List Cel)) : putL key x d [] vs = if d then [] else [(key, x)] := by cases vs <;> rfl
theorem put_len (key : ByteArray) (x : List Cel) : ∀ (ks : List ByteArray) (vs : List (List Cel)) (d : Bool), ((putL key x d ks vs).flatMap pairC).length ≤ (prsC ks vs).length + (if d then 0 else 1 + x.length)
  | [], vs, d => by
    rw [putL_nil]
    cases d <;> simp [pairC]
    omega
  | k :: ks, [], d => by
    rw [putL]
    · cases d <;> simp [pairC]
      omega
    · intros; simp_all
  | k :: ks, v :: vs, d => by
    have h1 := put_len key x ks vs true
    have h2 := put_len key x ks vs d
    have e : prsC (k :: ks) (v :: vs) = pairC (k, v) ++ prsC ks vs := rfl
    rw [putL, e, List.length_append]
    have e1 : (pairC (k, v)).length = v.length + 1 := rfl
    have e2 : (pairC (key, x)).length = x.length + 1 := rfl
    simp only [if_true] at h1
    split
    · next hd =>
      obtain ⟨rfl, _⟩ := hd
      simp only [Bool.false_eq_true, if_false]
      split
      · rw [List.flatMap_cons, List.length_append]
        omega
      · rw [List.flatMap_cons, List.length_append, List.flatMap_cons, List.length_append]
        omega
    · split
      · omega
      · rw [List.flatMap_cons, List.length_append]
        omega
theorem put_mem (key : ByteArray) (x : List Cel) : ∀ (ks : List ByteArray) (vs : List (List Cel)) (d : Bool) (p : ByteArray × List Cel), p ∈ putL key x d ks vs → (p.1 = key ∨ p.1 ∈ ks)
  | [], vs, d, p, h => by
    rw [putL_nil] at h
    cases d
    · simp at h; exact .inl (by rw [h])
    · simp at h
  | k :: ks, [], d, p, h => by
    rw [putL] at h
    · cases d
      · simp at h; exact .inl (by rw [h])
      · simp at h
    · intros; simp_all
  | k :: ks, v :: vs, d, p, h => by
    have r : ∀ d', p ∈ putL key x d' ks vs → (p.1 = key ∨ p.1 ∈ k :: ks) := fun d' h => (put_mem key x ks vs d' p h).imp id (List.mem_cons_of_mem _)
    rw [putL] at h
    split at h
    · rcases List.mem_cons.1 h with rfl | h
      · exact .inl rfl
      · split at h
        · exact r _ h
        · rcases List.mem_cons.1 h with rfl | h
          · exact .inr (List.mem_cons_self ..)
          · exact r _ h
    · split at h
      · exact r _ h
      · rcases List.mem_cons.1 h with rfl | h
        · exact .inr (List.mem_cons_self ..)
        · exact r _ h
theorem prs_flat : ∀ x : M, prsC (keysM x) (valsM x) = flatM x
  | .nil => rfl
  | .cons k v r => by
    have e : prsC (keysM (.cons k v r)) (valsM (.cons k v r)) = pairC (⟨k.toArray⟩, flat v) ++ prsC (keysM r) (valsM r) := rfl
    rw [e, prs_flat r, flatM, pairC, tl k]
    rfl
theorem key_map {l : List Cel} (h : keyE l = 0) : ∃ x, par l = some (.map x) ∧ chkT l (.map x) = 0 ∧ keyB l = keysM x ∧ itmB l = valsM x := by
  unfold keyE at h
  split at h
  · next hx =>
    obtain ⟨t, hp, hz⟩ := chk_ok hx
    rw [hp] at h
    cases t with
    | map x =>
      refine ⟨x, hp, hz, ?_, ?_⟩
      · unfold keyB; rw [hp]; exact if_pos hz
      · unfold itmB; rw [hp]; exact if_pos hz
    | _ => cases h
  · next hx => exact absurd h hx
theorem keysM_cell : ∀ (x : M) (k : ByteArray), k ∈ keysM x → ⟨4, 0, k.toList, 0⟩ ∈ flatM x
  | .nil, k, h => by cases h
  | .cons ky v r, k, h => by
    rw [keysM] at h
    rw [flatM]
    rcases List.mem_cons.1 h with rfl | h
    · rw [tl ky]; exact List.mem_cons_self ..
    · exact List.mem_cons_of_mem _ (List.mem_append_right _ (keysM_cell r k h))
theorem put_bounds {l x : List Cel} {key : ByteArray} (h : keyE l = 0) (hx : chk x = 0) (hkey : key.size ≤ 140737488355328) (hf : ∀ c ∈ l, Fits c) :
    (keyB l).length ≤ 200 ∧ (keyB l).length = (itmB l).length ∧ (prsC (putN l key x) (putV l key x)).length ≤ 1000 ∧ (∀ y ∈ putN l key x, y.size ≤ 140737488355328) ∧ (putN l key x).length ≤ 1000 := by
  obtain ⟨m, hp, hz, h1, h2⟩ := key_map h
  obtain ⟨_, hlf⟩ := par_some.1 hp
  have hl := chk_len hz
  obtain ⟨t, hpx, hzx⟩ := chk_ok hx
  have hlx := chk_len hzx
  have hll := congrArg List.length hlf
  simp only [flat, List.length_cons] at hll
  have e : prsC (putN l key x) (putV l key x) = (putL key x false (keyB l) (itmB l)).flatMap pairC := by
    unfold prsC putN putV
    rw [← List.zip_of_prod rfl rfl]
  have hb := put_len key x (keyB l) (itmB l) false
  rw [← e, h1, h2, prs_flat] at hb
  simp only [Bool.false_eq_true, if_false] at hb
  have hp2 : (prsC (putN l key x) (putV l key x)).length ≤ 1000 := by omega
  refine ⟨?_, (key_itm h).1, hp2, fun y hy => ?_, ?_⟩
  · rw [h1, keysM_len]
    have := lenM_le m
    omega
  · obtain ⟨p, hpm, rfl⟩ := List.mem_map.1 hy
    rcases put_mem key x _ _ _ p hpm with h3 | h3
    · rw [h3]; exact hkey
    · rw [h1] at h3
      have h4 := keysM_cell m _ h3
      have h5 := hf _ (by rw [hlf, flat]; exact List.mem_cons_of_mem _ h4)
      have h6 := h5.2.2.2
      rw [← toL_len]
      exact h6
  · have hq : ∀ q : List (ByteArray × List Cel), q.length ≤ (q.flatMap pairC).length := by
      intro q
      induction q with
      | nil => exact Nat.zero_le _
      | cons a r ih =>
        rw [List.flatMap_cons, List.length_append, List.length_cons]
        have : (pairC a).length = a.2.length + 1 := rfl
        omega
    have := hq (putL key x false (keyB l) (itmB l))
    unfold putN
    rw [List.length_map]
    rw [e] at hp2
    omega
end Val
end Go.Proofs.YtegfcmnbljdcpaaGreatDoor

/-
  Layer 6, the reference: Put's walk.
-/
namespace Go.Proofs.YtegfcmnbljdcpaaGreatDoor
open Go.RowKit Go.ChangeShapes Go.WideShapes
namespace Val

theorem putL_drop (key : ByteArray) (x : List Cel) (d : Bool) {ks : List ByteArray} {vs : List (List Cel)} {k : Nat} (h1 : k < ks.length) (h2 : k < vs.length) : putL key x d (ks.drop k) (vs.drop k) =
    if d = false ∧ ¬ ks[k].toList < key.toList then (key, x) :: (if ks[k] = key then putL key x true (ks.drop (k + 1)) (vs.drop (k + 1)) else (ks[k], vs[k]) :: putL key x true (ks.drop (k + 1)) (vs.drop (k + 1)))
    else if ks[k] = key then putL key x d (ks.drop (k + 1)) (vs.drop (k + 1)) else (ks[k], vs[k]) :: putL key x d (ks.drop (k + 1)) (vs.drop (k + 1)) := by
  rw [List.drop_eq_getElem_cons h1, List.drop_eq_getElem_cons h2, putL]
/-- The three ways in which two strings stand to each other, as a walk asks. -/
theorem str_ways (y k : ByteArray) : (y.toList < k.toList ∧ Op.bytesLess y.toList k.toList = true ∧ Op.bytesLess k.toList y.toList = false ∧ (y.toList == k.toList) = false ∧ (k.toList == y.toList) = false) ∨ (y = k) ∨
    (k.toList < y.toList ∧ Op.bytesLess y.toList k.toList = false ∧ Op.bytesLess k.toList y.toList = true ∧ (y.toList == k.toList) = false ∧ (k.toList == y.toList) = false) := by
  rcases words_cases y.toList k.toList with ⟨h, _⟩ | ⟨h, _⟩ | ⟨h, _⟩
  · refine .inl ⟨h, ?_, (leq_no h).1, ?_, (leq_no h).2⟩
    · rw [bytesLess_eq]; exact decide_eq_true h
    · rw [Bool.beq_comm]; exact (leq_no h).2
  · exact .inr (.inl (by rw [← str_back y, h, str_back k]))
  · refine .inr (.inr ⟨h, (leq_no h).1, ?_, (leq_no h).2, ?_⟩)
    · rw [bytesLess_eq]; exact decide_eq_true h
    · rw [Bool.beq_comm]; exact (leq_no h).2
theorem less_self (y : List UInt8) : Op.bytesLess y y = false := by
  rw [bytesLess_eq]
  exact decide_eq_false (List.lt_irrefl _)
theorem put_no_key (l : List Cel) (key : ByteArray) (hk : keyE l ≠ 0) (o : Option Addr) (n c : Nat) (hn : n ≤ 1000000) (o3 : Option Addr) (n3 c3 : Nat) (w : World) (hL : Lad w) (hA : CArg w o n l) :
    Calls Tryz.prog 16 #[.slice o n c, .string key, .slice o3 n3 c3] w fun e w' => CRes w' e [] (keyE l) ∧ Bel w w' := by
  have hC := keys_any l o n c hn w hL hA
  rw [keyE_no hk] at hC
  have HC := Lib.hid hC
  generalize keyE l = E at *
  clear hA hC
  go_enter Tryz.func16, Tryz.ntmps16
  go_wp2_with fail
  refine HC.out.mono ?_
  rintro e w1 ⟨⟨o1, n1, c1, rfl, _, _⟩, g1⟩
  go_wp2_with fail
  go_ret2
  exact ⟨CRes.nil _ _, g1⟩
theorem put_no_x (l x : List Cel) (key : ByteArray) (hk : keyE l = 0) (hx : chk x ≠ 0) (o : Option Addr) (n c : Nat) (hn : n ≤ 1000000) (o3 : Option Addr) (n3 c3 : Nat) (hn3 : n3 ≤ 1000000) (w : World) (hL : Lad w) (hA : CArg w o n l) (hX : CArg w o3 n3 x) :
    Calls Tryz.prog 16 #[.slice o n c, .string key, .slice o3 n3 c3] w fun e w' => CRes w' e [] (chk x) ∧ Bel w w' := by
  have hC := keys_any l o n c hn w hL hA
  rw [hk] at hC
  have HC := Lib.hid hC
  have HX := Lib.hid (fun (W : World) (h : Bel w W) => check_any x o3 n3 c3 hn3 W (hL.on h) (hX.on h))
  generalize chk x = E at *
  clear hA hC hX
  go_enter Tryz.func16, Tryz.ntmps16
  go_wp2_with fail
  refine HC.out.mono ?_
  rintro e w1 ⟨⟨o1, n1, c1, rfl, _, _⟩, g1⟩
  go_wp2_with fail
  refine (HX.out w1 g1).mono ?_
  rintro e w2 ⟨rfl, g2⟩
  go_wp2_with fail
  go_ret2
  exact ⟨CRes.nil _ _, Bel.trans g1 g2⟩
set_option maxRecDepth 100000 in
set_option maxHeartbeats 8000000 in
theorem put_yes (l x : List Cel) (key : ByteArray) (hk : keyE l = 0) (hx : chk x = 0) (hkey : key.size ≤ 140737488355328) (o : Option Addr) (n c : Nat) (hn : n ≤ 1000000) (o3 : Option Addr) (n3 c3 : Nat) (hn3 : n3 ≤ 1000000) (hc3 : n3 ≤ c3) (w : World) (hL : Lad w) (hA : CArg w o n l) (hX : CArg w o3 n3 x) :
    Calls Tryz.prog 16 #[.slice o n c, .string key, .slice o3 n3 c3] w fun e w' => CRes w' e (mapB (putN l key x) (putV l key x)) (mapE (putN l key x) (putV l key x)) ∧ Bel w w' := by
  have HB := Lib.hid (put_bounds hk hx hkey hA.2.1)
  have hC := keys_any l o n c hn w hL hA
  rw [hk] at hC
  have hXC := fun (W : World) (h : Bel w W) => check_any x o3 n3 c3 hn3 W (hL.on h) (hX.on h)
  rw [hx] at hXC
  have HXC := Lib.hid hXC
  have hI := fun (W : World) (h : Bel w W) => items_any l o n c hn W (hL.on h) (hA.on h)
  rw [(key_itm hk).2] at hI
  have HM : Hid (∀ (ps : List ByteArray) (ls : List (List Cel)) (oN oV : Option Addr) (mN cN mV cV : Nat) (W : World), ps = putN l key x → ls = putV l key x → Bel w W → SlArg W oN mN ps → LArg W oV mV ls →
      Calls Tryz.prog 39 #[.slice oN mN cN, .slice oV mV cV] W fun e w' => CRes w' e (mapB (putN l key x) (putV l key x)) (mapE (putN l key x) (putV l key x)) ∧ Bel W w') := Lib.hid (by
    intro ps ls oN oV mN cN mV cV W h1 h2 g hs hl
    subst h1 h2
    obtain ⟨_, _, b3, b4, b5⟩ := HB.out
    have e1 := hs.1
    have e2 := hl.1
    have e3 : (putN l key x).length = (putV l key x).length := by unfold putN putV; simp
    exact map_any _ _ oN oV mN cN mV cV (by omega) (by omega) b4 (by omega) (by omega) W (hL.on g) hs hl)
  have hb1 := HB.out.1
  have hb2 := HB.out.2.1
  obtain ⟨rB, hrB⟩ : ∃ rB, mapB (putN l key x) (putV l key x) = rB := ⟨_, rfl⟩
  obtain ⟨rE, hrE⟩ : ∃ rE, mapE (putN l key x) (putV l key x) = rE := ⟨_, rfl⟩
  rw [hrB, hrE] at HM ⊢
  have hN : (putL key x false ((keyB l).drop 0) ((itmB l).drop 0)).map Prod.fst = putN l key x := rfl
  have hV : (putL key x false ((keyB l).drop 0) ((itmB l).drop 0)).map Prod.snd = putV l key x := rfl
  obtain ⟨RN, hRN⟩ : ∃ RN, putN l key x = RN := ⟨_, rfl⟩
  obtain ⟨RV, hRV⟩ : ∃ RV, putV l key x = RV := ⟨_, rfl⟩
  rw [hRN] at hN HM
  rw [hRV] at hV HM
  obtain ⟨ks, hks⟩ : ∃ ks, keyB l = ks := ⟨_, rfl⟩
  obtain ⟨vs, hvs⟩ : ∃ vs, itmB l = vs := ⟨_, rfl⟩
  rw [hks] at hC hb1 hb2 hN hV
  rw [hvs] at hI hb2 hN hV
  have HC := Lib.hid hC
  have HI := Lib.hid hI
  have HN := Lib.hid hN
  have HV := Lib.hid hV
  have HX := Lib.hid hX
  clear hC hXC hI hN hV hX hA hL hk hx hkey hks hvs hrB hrE hRN hRV HB
  go_enter Tryz.func16, Tryz.ntmps16
  go_wp2_with fail
  refine HC.out.mono ?_
  rintro e w1 ⟨⟨o1, n1, c1, rfl, hS, _⟩, g1⟩
  have B1 := Lib.hid g1
  have HS := Lib.hid hS
  clear HC g1 hS
  go_wp2_with fail
  refine (HXC.out w1 B1.out).mono ?_
  rintro e w2 ⟨rfl, g2⟩
  have B2 := Lib.hid (Bel.trans B1.out g2)
  have HS2 := Lib.hid (HS.out.on g2)
  clear HXC g2 B1 HS
  go_wp2_with fail
  refine (HI.out w2 B2.out).mono ?_
  rintro e V ⟨⟨o2, n2, c2, rfl, hVs, _⟩, g3⟩
  have HVs := Lib.hid hVs
  have HS3 := Lib.hid (HS2.out.on g3)
  have B3 := Lib.hid (Bel.trans B2.out g3)
  have HX3 := Lib.hid (HX.out.on B3.out)
  have hl1 := hVs.1
  have hl2 := HS3.out.1
  obtain rfl : n1 = n2 := by omega
  clear HI g3 hVs HS2 B2 HX
  go_wp2_with fail
  go_loopw [12, 13, 14, 15] (fun s12 s13 s14 s15 wr => ∃ (k mN cN mV cV : Nat) (aN aV : Option Addr) (d : Bool) (ps : List ByteArray) (qs : List Value) (ls : List (List Cel)), s12 = .slice aN mN cN ∧ s13 = .slice aV mV cV ∧ s14 = .bool d ∧ s15 = .int .i64 (k : Int) ∧ k ≤ n1 ∧ mN ≤ 2 * k ∧ mV ≤ 2 * k ∧
    Hid (Rows V wr aN mN cN ps aV mV cV qs) ∧ Hid (Itms V qs ls) ∧ Hid (ps ++ (putL key x d (ks.drop k) (vs.drop k)).map Prod.fst = RN) ∧ Hid (ls ++ (putL key x d (ks.drop k) (vs.drop k)).map Prod.snd = RV)) (fun _ _ _ s15 _ => n1 - (intOf s15).toNat)
  case atStart => exact ⟨0, 0, 0, 0, 0, none, none, false, [], [], [], rfl, rfl, rfl, rfl, Nat.zero_le _, Nat.le_refl _, Nat.le_refl _, Lib.hid (Rows.nil V V (Bel.refl _)), Lib.hid (Itms.nil V), HN, HV⟩
  case round =>
    obtain ⟨k, mN, cN, mV, cV, aN, aV, d, ps, qs, ls, rfl, rfl, rfl, rfl, hk, hmN, hmV, hR, hIt, hpN, hpV⟩ := hrel
    rename World => W0
    clear HN HV
    by_cases hlt : k < n1
    · have hk1 : k < ks.length := by omega
      have hk2 : k < vs.length := by omega
      obtain ⟨a1, rfl, hc1⟩ := HS3.out.2 k hk1
      obtain ⟨a2, p, m, cd, rfl, hc2, hC2, hmd⟩ := HVs.out.2 k hk2
      have hst := putL_drop key x d hk1 hk2
      obtain ⟨y, hy⟩ : ∃ y, ks[k] = y := ⟨_, rfl⟩
      obtain ⟨v, hv⟩ : ∃ v, vs[k] = v := ⟨_, rfl⟩
      rw [hy] at hc1 hst
      rw [hv] at hC2 hst
      have H1 := Lib.hid hc1
      have H2 := Lib.hid hc2
      have HC2 := Lib.hid hC2
      have hpN0 := hpN.out
      have hpV0 := hpV.out
      rw [hst] at hpN0 hpV0
      clear hy hv hpN hpV hst hc1 hc2 hC2
      obtain ⟨r0, hr0⟩ : ∃ r0, putL key x d (ks.drop (k + 1)) (vs.drop (k + 1)) = r0 := ⟨_, rfl⟩
      obtain ⟨r1, hr1⟩ : ∃ r1, putL key x true (ks.drop (k + 1)) (vs.drop (k + 1)) = r1 := ⟨_, rfl⟩
      rw [hr0, hr1] at hpN0 hpV0
      have Hr0 := Lib.hid hr0
      have Hr1 := Lib.hid hr1
      have d1 := hR.out.2.2.2.cell' H1.out
      clear hr0 hr1
      rcases str_ways y key with ⟨hw, f1, f2, f3, f4⟩ | rfl | ⟨hw, f1, f2, f3, f4⟩
      · cases d with
        | false =>
          rw [if_neg (fun h => h.2 hw)] at hpN0 hpV0
          have hne : ¬ y = key := fun e => by rw [e] at hw; exact List.lt_irrefl _ hw
          rw [if_neg hne] at hpN0 hpV0
          have hEN : Hid ((ps ++ [y]) ++ r0.map Prod.fst = RN) := Lib.hid (by first | exact hpN0 | (rw [← hpN0]; simp))
          have hEV : Hid ((ls ++ [v]) ++ r0.map Prod.snd = RV) := Lib.hid (by first | exact hpV0 | (rw [← hpV0]; simp))
          rw [← Hr0.out] at hEN hEV
          clear hpN0 hpV0 hw hne
          have RA2 := Lib.hid (hR.out.on (Bel.alloc (Bel.refl W0) (.cells #[.string y] 9)))
          have qa2 := Lib.hid (cell_new1 W0 (.string y) 9)
          have ba2 : Hid (mN + 1 ≤ 1099511627776) := Lib.hid (by omega)
          go_wp2_with (at_builtin; refine list_appN _ _ rfl rfl rfl rfl RA2.out qa2.out ba2.out ?_; intro oN2 kN2 wN2 hN2; refine Hid.out ?_)
          refine Lib.hid ?_
          clear RA2 qa2 ba2
          have RB2 := Lib.hid (hN2.out.on (Bel.alloc (Bel.refl wN2) (.cells #[.slice p m cd] 22)))
          have qb2 := Lib.hid (cell_new1 wN2 (.slice p m cd) 22)
          have bb2 : Hid (mV + 1 ≤ 1099511627776) := Lib.hid (by omega)
          have e2 := hN2.out.2.2.2.cell' H2.out
          go_wp2_with (at_builtin; refine list_appV _ _ rfl rfl rfl rfl RB2.out qb2.out bb2.out ?_; intro oV2 kV2 wV2 hV2; refine Hid.out ?_)
          refine Lib.hid ?_
          have I2 := Lib.hid (hIt.out.add HC2.out hmd)
          clear RB2 qb2 bb2
          go_wp2
          go_round
          case rel => exact ⟨k + 1, mN + 1, kN2, mV + 1, kV2, oN2, oV2, false, _, _, _, rfl, rfl, rfl, by go_num, by omega, by omega, by omega, hV2, I2, hEN, hEV⟩
          case measure => simp [intOf]; omega
        | true =>
          rw [if_neg (fun h => by cases h.1)] at hpN0 hpV0
          have hne : ¬ y = key := fun e => by rw [e] at hw; exact List.lt_irrefl _ hw
          rw [if_neg hne] at hpN0 hpV0
          have hEN : Hid ((ps ++ [y]) ++ r0.map Prod.fst = RN) := Lib.hid (by first | exact hpN0 | (rw [← hpN0]; simp))
          have hEV : Hid ((ls ++ [v]) ++ r0.map Prod.snd = RV) := Lib.hid (by first | exact hpV0 | (rw [← hpV0]; simp))
          rw [← Hr0.out] at hEN hEV
          clear hpN0 hpV0 hw hne
          have RA2 := Lib.hid (hR.out.on (Bel.alloc (Bel.refl W0) (.cells #[.string y] 9)))
          have qa2 := Lib.hid (cell_new1 W0 (.string y) 9)
          have ba2 : Hid (mN + 1 ≤ 1099511627776) := Lib.hid (by omega)
          go_wp2_with (at_builtin; refine list_appN _ _ rfl rfl rfl rfl RA2.out qa2.out ba2.out ?_; intro oN2 kN2 wN2 hN2; refine Hid.out ?_)
          refine Lib.hid ?_
          clear RA2 qa2 ba2
          have RB2 := Lib.hid (hN2.out.on (Bel.alloc (Bel.refl wN2) (.cells #[.slice p m cd] 22)))
          have qb2 := Lib.hid (cell_new1 wN2 (.slice p m cd) 22)
          have bb2 : Hid (mV + 1 ≤ 1099511627776) := Lib.hid (by omega)
          have e2 := hN2.out.2.2.2.cell' H2.out
          go_wp2_with (at_builtin; refine list_appV _ _ rfl rfl rfl rfl RB2.out qb2.out bb2.out ?_; intro oV2 kV2 wV2 hV2; refine Hid.out ?_)
          refine Lib.hid ?_
          have I2 := Lib.hid (hIt.out.add HC2.out hmd)
          clear RB2 qb2 bb2
          go_wp2
          go_round
          case rel => exact ⟨k + 1, mN + 1, kN2, mV + 1, kV2, oN2, oV2, true, _, _, _, rfl, rfl, rfl, by go_num, by omega, by omega, by omega, hV2, I2, hEN, hEV⟩
          case measure => simp [intOf]; omega
      · cases d with
        | false =>
          rw [if_pos ⟨rfl, List.lt_irrefl _⟩] at hpN0 hpV0
          rw [if_pos rfl] at hpN0 hpV0
          have hEN : Hid ((ps ++ [y]) ++ r1.map Prod.fst = RN) := Lib.hid (by first | exact hpN0 | (rw [← hpN0]; simp))
          have hEV : Hid ((ls ++ [x]) ++ r1.map Prod.snd = RV) := Lib.hid (by first | exact hpV0 | (rw [← hpV0]; simp))
          rw [← Hr1.out] at hEN hEV
          clear hpN0 hpV0
          have f1 := less_self y.toList
          have RA1 := Lib.hid (hR.out.on (Bel.alloc (Bel.refl W0) (.cells #[.string y] 9)))
          have qa1 := Lib.hid (cell_new1 W0 (.string y) 9)
          have ba1 : Hid (mN + 1 ≤ 1099511627776) := Lib.hid (by omega)
          go_wp2_with (at_builtin; refine list_appN _ _ rfl rfl rfl rfl RA1.out qa1.out ba1.out ?_; intro oN1 kN1 wN1 hN1; refine Hid.out ?_)
          refine Lib.hid ?_
          clear RA1 qa1 ba1
          have RB1 := Lib.hid (hN1.out.on (Bel.alloc (Bel.refl wN1) (.cells #[.slice o3 n3 c3] 22)))
          have qb1 := Lib.hid (cell_new1 wN1 (.slice o3 n3 c3) 22)
          have bb1 : Hid (mV + 1 ≤ 1099511627776) := Lib.hid (by omega)
          go_wp2_with (at_builtin; refine list_appV _ _ rfl rfl rfl rfl RB1.out qb1.out bb1.out ?_; intro oV1 kV1 wV1 hV1; refine Hid.out ?_)
          refine Lib.hid ?_
          have I1 := Lib.hid (hIt.out.add HX3.out hc3)
          clear RB1 qb1 bb1
          have d2 := hV1.out.2.2.2.cell' H1.out
          go_wp2
          go_round
          case rel => exact ⟨k + 1, mN + 1, kN1, mV + 1, kV1, oN1, oV1, true, _, _, _, rfl, rfl, rfl, by go_num, by omega, by omega, by omega, hV1, I1, hEN, hEV⟩
          case measure => simp [intOf]; omega
        | true =>
          rw [if_neg (fun h => by cases h.1)] at hpN0 hpV0
          rw [if_pos rfl] at hpN0 hpV0
          have hEN : Hid ((ps) ++ r0.map Prod.fst = RN) := Lib.hid (by first | exact hpN0 | (rw [← hpN0]; simp))
          have hEV : Hid ((ls) ++ r0.map Prod.snd = RV) := Lib.hid (by first | exact hpV0 | (rw [← hpV0]; simp))
          rw [← Hr0.out] at hEN hEV
          clear hpN0 hpV0
          have f1 := less_self y.toList
          go_wp2
          go_round
          case rel => exact ⟨k + 1, mN, cN, mV, cV, aN, aV, true, _, _, _, rfl, rfl, rfl, by go_num, by omega, by omega, by omega, hR, hIt, hEN, hEV⟩
          case measure => simp [intOf]; omega
      · cases d with
        | false =>
          rw [if_pos ⟨rfl, fun h => List.lt_irrefl _ (List.lt_trans h hw)⟩] at hpN0 hpV0
          have hne : ¬ y = key := fun e => by rw [e] at hw; exact List.lt_irrefl _ hw
          rw [if_neg hne] at hpN0 hpV0
          have hEN : Hid ((ps ++ [key] ++ [y]) ++ r1.map Prod.fst = RN) := Lib.hid (by first | exact hpN0 | (rw [← hpN0]; simp))
          have hEV : Hid ((ls ++ [x] ++ [v]) ++ r1.map Prod.snd = RV) := Lib.hid (by first | exact hpV0 | (rw [← hpV0]; simp))
          rw [← Hr1.out] at hEN hEV
          clear hpN0 hpV0 hw hne
          have RA1 := Lib.hid (hR.out.on (Bel.alloc (Bel.refl W0) (.cells #[.string key] 9)))
          have qa1 := Lib.hid (cell_new1 W0 (.string key) 9)
          have ba1 : Hid (mN + 1 ≤ 1099511627776) := Lib.hid (by omega)
          go_wp2_with (at_builtin; refine list_appN _ _ rfl rfl rfl rfl RA1.out qa1.out ba1.out ?_; intro oN1 kN1 wN1 hN1; refine Hid.out ?_)
          refine Lib.hid ?_
          clear RA1 qa1 ba1
          have RB1 := Lib.hid (hN1.out.on (Bel.alloc (Bel.refl wN1) (.cells #[.slice o3 n3 c3] 22)))
          have qb1 := Lib.hid (cell_new1 wN1 (.slice o3 n3 c3) 22)
          have bb1 : Hid (mV + 1 ≤ 1099511627776) := Lib.hid (by omega)
          go_wp2_with (at_builtin; refine list_appV _ _ rfl rfl rfl rfl RB1.out qb1.out bb1.out ?_; intro oV1 kV1 wV1 hV1; refine Hid.out ?_)
          refine Lib.hid ?_
          have I1 := Lib.hid (hIt.out.add HX3.out hc3)
          clear RB1 qb1 bb1
          have d2 := hV1.out.2.2.2.cell' H1.out
          have RA2 := Lib.hid (hV1.out.on (Bel.alloc (Bel.refl wV1) (.cells #[.string y] 9)))
          have qa2 := Lib.hid (cell_new1 wV1 (.string y) 9)
          have ba2 : Hid (mN + 1 + 1 ≤ 1099511627776) := Lib.hid (by omega)
          go_wp2_with (at_builtin; refine list_appN _ _ rfl rfl rfl rfl RA2.out qa2.out ba2.out ?_; intro oN2 kN2 wN2 hN2; refine Hid.out ?_)
          refine Lib.hid ?_
          clear RA2 qa2 ba2
          have RB2 := Lib.hid (hN2.out.on (Bel.alloc (Bel.refl wN2) (.cells #[.slice p m cd] 22)))
          have qb2 := Lib.hid (cell_new1 wN2 (.slice p m cd) 22)
          have bb2 : Hid (mV + 1 + 1 ≤ 1099511627776) := Lib.hid (by omega)
          have e2 := hN2.out.2.2.2.cell' H2.out
          go_wp2_with (at_builtin; refine list_appV _ _ rfl rfl rfl rfl RB2.out qb2.out bb2.out ?_; intro oV2 kV2 wV2 hV2; refine Hid.out ?_)
          refine Lib.hid ?_
          have I2 := Lib.hid (I1.out.add HC2.out hmd)
          clear RB2 qb2 bb2
          go_wp2
          go_round
          case rel => exact ⟨k + 1, mN + 1 + 1, kN2, mV + 1 + 1, kV2, oN2, oV2, true, _, _, _, rfl, rfl, rfl, by go_num, by omega, by omega, by omega, hV2, I2, hEN, hEV⟩
          case measure => simp [intOf]; omega
        | true =>
          rw [if_neg (fun h => by cases h.1)] at hpN0 hpV0
          have hne : ¬ y = key := fun e => by rw [e] at hw; exact List.lt_irrefl _ hw
          rw [if_neg hne] at hpN0 hpV0
          have hEN : Hid ((ps ++ [y]) ++ r0.map Prod.fst = RN) := Lib.hid (by first | exact hpN0 | (rw [← hpN0]; simp))
          have hEV : Hid ((ls ++ [v]) ++ r0.map Prod.snd = RV) := Lib.hid (by first | exact hpV0 | (rw [← hpV0]; simp))
          rw [← Hr0.out] at hEN hEV
          clear hpN0 hpV0 hw hne
          have RA2 := Lib.hid (hR.out.on (Bel.alloc (Bel.refl W0) (.cells #[.string y] 9)))
          have qa2 := Lib.hid (cell_new1 W0 (.string y) 9)
          have ba2 : Hid (mN + 1 ≤ 1099511627776) := Lib.hid (by omega)
          go_wp2_with (at_builtin; refine list_appN _ _ rfl rfl rfl rfl RA2.out qa2.out ba2.out ?_; intro oN2 kN2 wN2 hN2; refine Hid.out ?_)
          refine Lib.hid ?_
          clear RA2 qa2 ba2
          have RB2 := Lib.hid (hN2.out.on (Bel.alloc (Bel.refl wN2) (.cells #[.slice p m cd] 22)))
          have qb2 := Lib.hid (cell_new1 wN2 (.slice p m cd) 22)
          have bb2 : Hid (mV + 1 ≤ 1099511627776) := Lib.hid (by omega)
          have e2 := hN2.out.2.2.2.cell' H2.out
          go_wp2_with (at_builtin; refine list_appV _ _ rfl rfl rfl rfl RB2.out qb2.out bb2.out ?_; intro oV2 kV2 wV2 hV2; refine Hid.out ?_)
          refine Lib.hid ?_
          have I2 := Lib.hid (hIt.out.add HC2.out hmd)
          clear RB2 qb2 bb2
          go_wp2
          go_round
          case rel => exact ⟨k + 1, mN + 1, kN2, mV + 1, kV2, oN2, oV2, true, _, _, _, rfl, rfl, rfl, by go_num, by omega, by omega, by omega, hV2, I2, hEN, hEV⟩
          case measure => simp [intOf]; omega
    · obtain rfl : k = n1 := by omega
      have hpN0 := hpN.out
      have hpV0 := hpV.out
      rw [List.drop_of_length_le (by omega), putL_nil] at hpN0 hpV0
      clear hpN hpV
      cases d with
      | false =>
        simp only [Bool.false_eq_true, if_false, List.map_cons, List.map_nil] at hpN0 hpV0
        have RA := Lib.hid (hR.out.on (Bel.alloc (Bel.refl W0) (.cells #[.string key] 9)))
        have qa := Lib.hid (cell_new1 W0 (.string key) 9)
        have ba : Hid (mN + 1 ≤ 1099511627776) := Lib.hid (by omega)
        go_wp2_with (at_builtin; refine list_appN _ _ rfl rfl rfl rfl RA.out qa.out ba.out ?_; intro oN kN wN hN; refine Hid.out ?_)
        refine Lib.hid ?_
        have RB := Lib.hid (hN.out.on (Bel.alloc (Bel.refl wN) (.cells #[.slice o3 n3 c3] 22)))
        have qb := Lib.hid (cell_new1 wN (.slice o3 n3 c3) 22)
        have bb : Hid (mV + 1 ≤ 1099511627776) := Lib.hid (by omega)
        clear RA qa ba
        go_wp2_with (at_builtin; refine list_appV _ _ rfl rfl rfl rfl RB.out qb.out bb.out ?_; intro oV kV wV hV; refine Hid.out ?_)
        refine Lib.hid ?_
        have hAr := hV.out.args (hIt.out.add HX3.out hc3)
        have HMM := Lib.hid (HM.out _ _ oN oV (mN + 1) kN (mV + 1) kV wV hpN0 hpV0 (Bel.trans B3.out hV.out.2.2.2) hAr.1 hAr.2)
        have BF := Lib.hid (Bel.trans B3.out hV.out.2.2.2)
        clear RB qb bb hAr hpN0 hpV0
        go_wp2_with fail
        refine HMM.out.mono ?_
        rintro e wF ⟨⟨o9, k9, c9, rfl, h9, h10⟩, g9⟩
        go_wp2_with fail
        go_ret2
        exact ⟨⟨o9, k9, c9, rfl, h9, h10⟩, Bel.trans BF.out g9⟩
      | true =>
        simp only [if_true, List.map_nil, List.append_nil] at hpN0 hpV0
        have hAr := hR.out.args hIt.out
        have HMM := Lib.hid (HM.out _ _ aN aV mN cN mV cV W0 hpN0 hpV0 (Bel.trans B3.out hR.out.2.2.2) hAr.1 hAr.2)
        have BF := Lib.hid (Bel.trans B3.out hR.out.2.2.2)
        clear hAr hpN0 hpV0
        go_wp2_with fail
        refine HMM.out.mono ?_
        rintro e wF ⟨⟨o9, k9, c9, rfl, h9, h10⟩, g9⟩
        go_wp2_with fail
        go_ret2
        exact ⟨⟨o9, k9, c9, rfl, h9, h10⟩, Bel.trans BF.out g9⟩
theorem put_any (l x : List Cel) (key : ByteArray) (hkey : key.size ≤ 140737488355328) (o : Option Addr) (n c : Nat) (hn : n ≤ 1000000) (o3 : Option Addr) (n3 c3 : Nat) (hn3 : n3 ≤ 1000000) (hc3 : n3 ≤ c3) (w : World) (hL : Lad w) (hA : CArg w o n l) (hX : CArg w o3 n3 x) :
    Calls Tryz.prog 16 #[.slice o n c, .string key, .slice o3 n3 c3] w fun e w' => CRes w' e (putB l key x) (putE l key x) ∧ Bel w w' := by
  unfold putB putE
  by_cases hk : keyE l = 0
  · rw [if_pos hk, if_pos hk]
    by_cases hx : chk x = 0
    · rw [if_pos hx, if_pos hx]
      exact put_yes l x key hk hx hkey o n c hn o3 n3 c3 hn3 hc3 w hL hA hX
    · rw [if_neg hx, if_neg hx]
      exact put_no_x l x key hk hx o n c hn o3 n3 c3 hn3 w hL hA hX
  · rw [if_neg hk, if_neg hk]
    exact put_no_key l key hk o n c hn o3 n3 c3 w hL hA
end Val
end Go.Proofs.YtegfcmnbljdcpaaGreatDoor

/-
  Layer 6, the reference: Same.
-/
namespace Go.Proofs.YtegfcmnbljdcpaaGreatDoor
open Go.RowKit Go.ChangeShapes Go.WideShapes
namespace Val

deriving instance DecidableEq for Cel
/-- What == says of two cells. -/
theorem eq_cell (a b c d : Int) (x y : ByteArray) (e f : Int) (w : World) : (Op.equalIn 10000 43 (.agg #[.int .i64 a, .int .i64 c, .string x, .int .i64 e]) (.agg #[.int .i64 b, .int .i64 d, .string y, .int .i64 f])).run Tryz.prog w = .ok (a == b && (c == d && (x.toList == y.toList && e == f))) w := by
  have hS : Tryz.prog.underlying 43 = some (.struct (Tryz.prog.fieldsOf 43)) := by kernel_rfl
  rw [show (10000 : Nat) = 9999 + 1 from rfl, run_equalIn_agg w 9999 43 _ _ hS (by kernel_rfl)]
  simp only [Program.fieldsOf, Tryz.underlying43]
  have u3 := Tryz.underlying3
  have u9 := Tryz.underlying9
  have uK := Tryz.underlying41
  go_simp
  by_cases h1 : a = b <;> by_cases h2 : c = d <;> by_cases h3 : x.toList = y.toList <;> by_cases h4 : e = f <;> simp [h1, h2, h3, h4]
@[go_sem] theorem guard_cell : Tryz.prog.eqGuardType Tryz.prog.depth 43 = false := by kernel_rfl
/-- Whether two lists of cells are the same. -/
def sameB (a b : List Cel) : Bool := decide (a = b)
theorem same_drop {a b : List Cel} {k : Nat} (h1 : k < a.length) (h2 : k < b.length) : sameB (a.drop k) (b.drop k) = (decide (a[k] = b[k]) && sameB (a.drop (k + 1)) (b.drop (k + 1))) := by
  unfold sameB
  rw [List.drop_eq_getElem_cons h1, List.drop_eq_getElem_cons h2]
  generalize a[k] = x
  generalize b[k] = y
  generalize a.drop (k + 1) = p
  generalize b.drop (k + 1) = q
  by_cases h : x = y
  · simp [h]
  · simp [h]
set_option maxHeartbeats 1000000 in
theorem same_any (a b : List Cel) (o o2 : Option Addr) (n c n2 c2 : Nat) (hn : n ≤ 1000000) (hn2 : n2 ≤ 1000000) (w : World) (hA : CArg w o n a) (hB : CArg w o2 n2 b) :
    Calls Tryz.prog 19 #[.slice o n c, .slice o2 n2 c2] w fun e w' => e = .returned (.bool (sameB a b)) ∧ Bel w w' := by
  have HA := Lib.hid hA
  have HB := Lib.hid hB
  have h1 := hA.1
  have h2 := hB.1
  obtain ⟨R, hR⟩ : ∃ R, sameB a b = R := ⟨_, rfl⟩
  rw [hR]
  have HR := Lib.hid hR
  clear hA hB hR
  by_cases hne : n = n2
  · subst n2
    go_enter Tryz.func19, Tryz.ntmps19
    go_wp2
    go_loopw [5] (fun i wr => ∃ k : Nat, i = .int .i64 (k : Int) ∧ k ≤ n ∧ Hid (sameB (a.drop k) (b.drop k) = R) ∧ Hid (Bel w wr)) (fun i _ => n - (intOf i).toNat)
    case atStart => exact ⟨0, rfl, Nat.zero_le _, HR, Lib.hid (Bel.refl _)⟩
    case round =>
      obtain ⟨k, rfl, hk, hr, hb⟩ := hrel
      rename World => W0
      by_cases hlt : k < n
      · have hk1 : k < a.length := by omega
        have hk2 : k < b.length := by omega
        obtain ⟨b1, f1, rfl, hc1⟩ := (HA.out.on hb.out).2.2 (by omega)
        obtain ⟨b2, f2, rfl, hc2⟩ := (HB.out.on hb.out).2.2 (by omega)
        obtain ⟨c1, c2, c3, c4⟩ := hc1 k hk1
        obtain ⟨d1, d2, d3, d4⟩ := hc2 k hk2
        have hst := hr.out
        rw [same_drop hk1 hk2] at hst
        generalize a[k] = x at *
        generalize b[k] = y at *
        clear hr hc1 hc2
        obtain ⟨xk, xi, xs, xn⟩ := x
        obtain ⟨yk, yi, ys, yn⟩ := y
        simp only at c1 c2 c3 c4 d1 d2 d3 d4
        have G := hb.out
        have Hst := Lib.hid hst
        clear hst hb
        obtain ⟨X, hX⟩ : ∃ X : ByteArray, ⟨xs.toArray⟩ = X := ⟨_, rfl⟩
        obtain ⟨Y, hY⟩ : ∃ Y : ByteArray, ⟨ys.toArray⟩ = Y := ⟨_, rfl⟩
        have hXs := Lib.hid (show X.toList = xs by rw [← hX, tl xs])
        have hYs := Lib.hid (show Y.toList = ys by rw [← hY, tl ys])
        rw [hX] at c3
        rw [hY] at d3
        clear hX hY
        have heq := eq_cell xk yk xi yi X Y xn yn
        by_cases hxy : (⟨xk, xi, xs, xn⟩ : Cel) = ⟨yk, yi, ys, yn⟩
        · have hv : (xk == yk && (xi == yi && (X.toList == Y.toList && xn == yn))) = true := by
            rw [hXs.out, hYs.out]
            cases hxy
            simp
          rw [hv] at heq
          have hr2 : Hid (sameB (a.drop (k + 1)) (b.drop (k + 1)) = R) := Lib.hid (by rw [← Hst.out, decide_eq_true hxy, Bool.true_and])
          clear hv hxy Hst hXs hYs
          go_upto_region 6 with (fail)
          go_region_held3 (fun w' => (w'.cell? ⟨b1, f1 + k * 4, none⟩ = some (.int .i64 xk) ∧ w'.cell? ⟨b1, f1 + k * 4 + 1, none⟩ = some (.int .i64 xi) ∧ w'.cell? ⟨b1, f1 + k * 4 + 2, none⟩ = some (.string X) ∧ w'.cell? ⟨b1, f1 + k * 4 + 3, none⟩ = some (.int .i64 xn)) ∧ (w'.cell? ⟨b2, f2 + k * 4, none⟩ = some (.int .i64 yk) ∧ w'.cell? ⟨b2, f2 + k * 4 + 1, none⟩ = some (.int .i64 yi) ∧ w'.cell? ⟨b2, f2 + k * 4 + 2, none⟩ = some (.string Y) ∧ w'.cell? ⟨b2, f2 + k * 4 + 3, none⟩ = some (.int .i64 yn)) ∧ Bel w w') (exact ⟨⟨c1, c2, c3, c4⟩, ⟨d1, d2, d3, d4⟩, Below.drew G⟩) (fail)
          obtain ⟨_, _, G2⟩ := ‹(_ ∧ _) ∧ (_ ∧ _) ∧ Bel w _›
          have G3 := Lib.hid G2
          go_wp2_with fail
          go_round
          case rel => exact ⟨k + 1, by go_num, by omega, hr2, G3⟩
          case measure => simp [intOf]; omega
        · have hv : (xk == yk && (xi == yi && (X.toList == Y.toList && xn == yn))) = false := by
            rw [hXs.out, hYs.out]
            rw [Bool.eq_false_iff]
            intro h
            apply hxy
            simp at h
            rw [h.1, h.2.1, h.2.2.1, h.2.2.2]
          rw [hv] at heq
          have hr2 : Hid (false = R) := Lib.hid (by rw [← Hst.out, decide_eq_false hxy, Bool.false_and])
          clear hv hxy Hst hXs hYs
          go_upto_region 6 with (fail)
          go_region_held3 (fun w' => (w'.cell? ⟨b1, f1 + k * 4, none⟩ = some (.int .i64 xk) ∧ w'.cell? ⟨b1, f1 + k * 4 + 1, none⟩ = some (.int .i64 xi) ∧ w'.cell? ⟨b1, f1 + k * 4 + 2, none⟩ = some (.string X) ∧ w'.cell? ⟨b1, f1 + k * 4 + 3, none⟩ = some (.int .i64 xn)) ∧ (w'.cell? ⟨b2, f2 + k * 4, none⟩ = some (.int .i64 yk) ∧ w'.cell? ⟨b2, f2 + k * 4 + 1, none⟩ = some (.int .i64 yi) ∧ w'.cell? ⟨b2, f2 + k * 4 + 2, none⟩ = some (.string Y) ∧ w'.cell? ⟨b2, f2 + k * 4 + 3, none⟩ = some (.int .i64 yn)) ∧ Bel w w') (exact ⟨⟨c1, c2, c3, c4⟩, ⟨d1, d2, d3, d4⟩, Below.drew G⟩) (fail)
          obtain ⟨_, _, G2⟩ := ‹(_ ∧ _) ∧ (_ ∧ _) ∧ Bel w _›
          have G3 := Lib.hid G2
          go_wp2_with fail
          go_ret
          exact ⟨by rw [← hr2.out]; rfl, G3.out⟩
      · obtain rfl : k = n := by omega
        have hr2 : Hid (true = R) := Lib.hid (by
          rw [← hr.out, List.drop_of_length_le (by omega), List.drop_of_length_le (by omega)]
          exact (decide_eq_true rfl).symm)
        clear hr
        go_wp2
        go_ret
        exact ⟨by rw [← hr2.out]; rfl, hb.out⟩
  · have hr2 : Hid (false = R) := Lib.hid (by
      rw [← HR.out]
      exact (decide_eq_false (fun e => hne (by rw [← h1, ← h2, e]))).symm)
    have hne2 : ¬ (n : Int) = (n2 : Int) := by omega
    clear hne
    go_enter Tryz.func19, Tryz.ntmps19
    go_wp2
    go_ret
    exact ⟨by rw [← hr2.out]; rfl, Bel.refl _⟩
end Val
end Go.Proofs.YtegfcmnbljdcpaaGreatDoor

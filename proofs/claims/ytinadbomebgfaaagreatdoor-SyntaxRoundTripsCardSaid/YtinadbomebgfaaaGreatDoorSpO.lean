/-
  Layer 8: a program as a law's argument.
-/
import Derived.Test.YtinadbomebgfaaaGreatDoorLxL
import Derived.Test.YtinadbomebgfaaaGreatDoorMG3
import Derived.Test.YtinadbomebgfaaaGreatDoorMF6
namespace Go.Proofs.YtinadbomebgfaaaGreatDoor
open Go.RowKit Go.ChangeShapes Go.WideShapes Go.Deep
namespace Syn
section
variable {H : Type} {enc : TypeId × Value → H} {w : World} {held : Bool}
/-- No weight of an argument's part is above the reach. -/
def Wt (P : Program) (t : TypeId) (d : DataW H) : Prop := ∀ n ∈ d.weights P t, n ≤ reachBytes
theorem Wt.of {P : Program} {ts : List TypeId} {ds : List (DataW H)} (h : (DataW.weightsEach P ts ds).all (· ≤ reachBytes) = true) {j : Nat} {t : TypeId} {d : DataW H} (ht : ts[j]? = some t) (hd : ds[j]? = some d) : Wt P t d := fun n hn => by
  have := List.all_eq_true.1 h _ (DataW.weights_mem_each ht hd n hn)
  simpa using this
theorem wt_all {P : Program} {e : TypeId} {x : DataW H} {n : Nat} (hn : n ∈ x.weights P e) : ∀ {l : List (DataW H)}, x ∈ l → n ∈ DataW.weightsAll P e l
  | y :: r, h => by
    simp only [DataW.weightsAll, List.mem_append]
    rcases List.mem_cons.1 h with rfl | h
    · exact Or.inl hn
    · exact Or.inr (wt_all hn h)
theorem Wt.slice {P : Program} {t e : TypeId} {es sp : List (DataW H)} (hu : P.underlying t = some (.slice e)) (h : Wt P t (.slice es sp)) : es.length * P.bytesOf e ≤ reachBytes ∧ ∀ x ∈ es, Wt P e x := by
  refine ⟨?_, fun x hx n hn => h n (by simp only [DataW.weights, hu, List.mem_cons, List.mem_append]; exact Or.inr (Or.inl (wt_all hn hx)))⟩
  have := h ((es.length + sp.length) * P.bytesOf e) (by simp [DataW.weights, hu])
  exact Nat.le_trans (Nat.mul_le_mul_right _ (by omega)) this
theorem Wt.agg {P : Program} {t : TypeId} {fs : Array Field} {ps : List (DataW H)} (hu : P.underlying t = some (.struct fs)) (h : Wt P t (.agg ps)) {j : Nat} {f : Field} {d : DataW H} (hf : fs[j]? = some f) (hd : ps[j]? = some d) : Wt P f.type d := fun n hn => h n (by
  simp only [DataW.weights, hu]
  exact DataW.weights_mem_each (j := j) (by simp [hf]) hd n hn)
theorem reach_lt {n k : Nat} (hk : 0 < k) (h : n * k ≤ reachBytes) : n ≤ 4611686018427387904 := by
  have h1 := reachBytes_lt
  have h2 : (2 : Nat) ^ 47 = 140737488355328 := by decide
  have h3 : n * 1 ≤ n * k := Nat.mul_le_mul_left _ hk
  omega
theorem ints_open {fuel : Nat} {cs : List Value} {x : DataW H × List MemPlace} {t : TypeId} (ht : Tryz.prog.underlying t = some (.slice 3)) (h : DataW.trod enc Tryz.prog w 0 (fun _ => true) held fuel t cs = some x) (hz : Wt Tryz.prog t x.1) :
    ∃ (o : Option Addr) (n c : Nat) (l : List Int), cs = [.slice o n c] ∧ ZArg w o n l ∧ n ≤ c ∧ n ≤ 4611686018427387904 := by
  rcases open_ints ht Tryz.underlying3 (by kernel_rfl) h with ⟨hcs, hx⟩ | ⟨a, len, cap, zs, hcs, _, hl, hm, hz', rfl, hcell, hwf⟩
  · exact ⟨none, 0, 0, [], hcs, ZArg.nil w none, Nat.le_refl _, by omega⟩
  · simp only [if_true] at hz'
    have hb : Tryz.prog.bytesOf 3 = 8 := by kernel_rfl
    have h1 := (hz.slice ht).1
    rw [hb] at h1
    have h2 := reach_lt (by omega) h1
    simp only [lits, List.length_map, List.length_take] at h2
    refine ⟨some a, len, cap, zs.take len, hcs, ⟨by simp; omega, fun i hi => ⟨a, rfl, ?_⟩⟩, hl, by omega⟩
    have hi' : i < len := by simp at hi; omega
    rw [hcell i (by omega)]
    simp [List.getD, List.getElem?_eq_getElem (show i < zs.length by omega)]
theorem strs_open {fuel : Nat} {cs : List Value} {x : DataW H × List MemPlace} {t : TypeId} (ht : Tryz.prog.underlying t = some (.slice 9)) (h : DataW.trod enc Tryz.prog w 0 (fun _ => true) held fuel t cs = some x) (hz : Wt Tryz.prog t x.1) :
    ∃ (o : Option Addr) (n c : Nat) (l : List Txt), cs = [.slice o n c] ∧ KArg w o n l ∧ n ≤ c ∧ n ≤ 4611686018427387904 ∧ (0 < n → ∀ a, o = some a → ∃ b off, a = ⟨b, off, none⟩) := by
  rcases open_strings ht Tryz.underlying9 (by kernel_rfl) h with ⟨hcs, hx⟩ | ⟨a, len, cap, ss, hcs, _, hl, hm, hz', rfl, hcell, hws⟩
  · exact ⟨none, 0, 0, [], hcs, KArg.nil w none, Nat.le_refl _, by omega, fun h0 => absurd h0 (Nat.lt_irrefl 0)⟩
  · simp only [if_true] at hz'
    have hb : Tryz.prog.bytesOf 9 = 16 := by kernel_rfl
    have h1 := (hz.slice ht).1
    rw [hb] at h1
    have h2 := reach_lt (by omega) h1
    simp only [strs, List.length_map, List.length_take] at h2
    have hmp : ((ss.take len).map fun s => s.data.toList).map bz = ss.take len := by
      rw [List.map_map]
      conv => rhs; rw [← List.map_id (ss.take len)]
      exact List.map_congr_left fun s _ => rfl
    refine ⟨some a, len, cap, (ss.take len).map fun s => s.data.toList, hcs, ?_, hl, by omega, fun h0 b hb => ?_⟩
    · unfold KArg
      rw [hmp]
      refine ⟨by simp; omega, fun i hi => ⟨a, rfl, ?_⟩⟩
      have hi' : i < len := by simp at hi; omega
      rw [hcell i (by omega)]
      simp [List.getD, List.getElem?_eq_getElem (show i < ss.length by omega)]
    · obtain rfl : a = b := Option.some.inj hb
      have h3 := Lex.spot_none (hcell 0 (by omega))
      obtain ⟨ab, ao, asp⟩ := a
      unfold Addr.add at h3
      simp at h3
      subst h3
      exact ⟨ab, ao, rfl⟩
/-- A slice of structs, each read by R. -/
theorem rows_open {α : Type} {t e : TypeId} {K : Nat} {R : List Value → α → Prop} {fuel : Nat} {cs : List Value} {x : DataW H × List MemPlace} (ht : Tryz.prog.underlying t = some (.slice e)) (hK : Tryz.prog.cellsOf e = K) (hK0 : 0 < K)
    (he : ∀ n cs y, DataW.trod enc Tryz.prog w 0 (fun _ => true) held n e cs = some y → Wt Tryz.prog e y.1 → ∃ x : α, R cs x)
    (h : DataW.trod enc Tryz.prog w 0 (fun _ => true) held fuel t cs = some x) (hz : Wt Tryz.prog t x.1) :
    ∃ (o : Option Addr) (n c : Nat) (l : List α), cs = [.slice o n c] ∧ l.length = n ∧ n * Tryz.prog.bytesOf e ≤ reachBytes ∧ (∀ x ∈ l, ∃ cs, R cs x) ∧ (0 < n → ∃ b off, o = some ⟨b, off, none⟩ ∧ ∀ i (h : i < l.length), ∃ cs' : List Value, cs'.length = K ∧ R cs' l[i] ∧ ∀ j u, cs'[j]? = some u → w.cell? ⟨b, off + i * K + j, none⟩ = some u) := by
  rcases open_slice ht h with ⟨rfl, rfl⟩ | ⟨a, len, cap, m, n', D, Pl, rfl, hb, hl, hm, hmm, rfl, hi⟩
  · exact ⟨none, 0, 0, [], rfl, rfl, by omega, fun x hx => (by cases hx), fun h0 => absurd h0 (Nat.lt_irrefl 0)⟩
  · simp only [if_true] at hmm
    subst hmm
    have hs := hz.slice ht
    have each : ∀ i, i < len → ∃ x : α, ∃ cs' : List Value, cs'.length = K ∧ R cs' x ∧ (∀ j, j < K → w.cell? ((a.add (i * K)).add j) = cs'[j]?) := fun i hil => by
      obtain ⟨cs', hcs, htr⟩ := hi i (by omega)
      obtain ⟨x, hx⟩ := he n' cs' _ htr (hs.2 _ (List.mem_map.2 ⟨i, List.mem_range.2 hil, rfl⟩))
      obtain ⟨-, hlen, hat⟩ := World.cells?_some hcs
      rw [hK] at hlen hat
      exact ⟨x, cs', hlen, hx, hat⟩
    have hsp : 0 < len → a.spot = none := fun h0 => by
      obtain ⟨x, cs', h1, -, h3⟩ := each 0 h0
      have h4 := h3 0 hK0
      have e : (a.add (0 * K)).add 0 = a := by unfold Addr.add; simp
      rw [e, List.getElem?_eq_getElem (by omega)] at h4
      exact Lex.spot_none h4
    rcases Nat.eq_zero_or_pos len with h0 | h0
    · subst h0
      exact ⟨some a, 0, m, [], rfl, rfl, by omega, fun x hx => (by cases hx), fun h0 => absurd h0 (Nat.lt_irrefl 0)⟩
    · have a0 := Classical.choice (let ⟨x, _⟩ := each 0 h0; (⟨x⟩ : Nonempty α))
      obtain ⟨f, hf⟩ : ∃ f : Nat → α, ∀ i, i < len → ∃ cs' : List Value, cs'.length = K ∧ R cs' (f i) ∧ (∀ j, j < K → w.cell? ((a.add (i * K)).add j) = cs'[j]?) :=
        ⟨fun i => if h : i < len then Classical.choose (each i h) else a0, fun i hi => by simp only [dif_pos hi]; exact Classical.choose_spec (each i hi)⟩
      refine ⟨some a, len, m, (List.range len).map f, rfl, by simp, by simpa using hs.1, fun x hx => ?_, fun _ => ?_⟩
      · obtain ⟨i, hi', rfl⟩ := List.mem_map.1 hx
        obtain ⟨cs', -, h2, -⟩ := hf i (List.mem_range.1 hi')
        exact ⟨cs', h2⟩
      · obtain ⟨ab, ao, asp⟩ := a
        have := hsp h0
        simp only at this
        subst this
        refine ⟨ab, ao, rfl, fun i hi' => ?_⟩
        have hil : i < len := by simpa using hi'
        obtain ⟨cs', h1, h2, h3⟩ := hf i hil
        refine ⟨cs', h1, by simpa using h2, fun j u hu => ?_⟩
        have hj : j < K := by
          rw [← h1]
          exact (List.getElem?_eq_some_iff.1 hu).1
        have := h3 j hj
        rw [Lex.add_none, Lex.add_none, hu] at this
        exact this
def RNd (w : World) (cs : List Value) (x : Nd) : Prop := ∃ v : Nv, cs = encV v ∧ NFit w v x ∧ (-9223372036854775808 ≤ x.i ∧ x.i ≤ 9223372036854775807) ∧ x.keys.length ≤ 4611686018427387904 ∧ x.kids.length ≤ 4611686018427387904
def RFw (w : World) (cs : List Value) (x : Fw) : Prop := ∃ v : Fv, cs = encF v ∧ FFit w v x ∧ x.params.length ≤ 4611686018427387904
set_option maxRecDepth 100000 in
theorem node_open (n : Nat) (cs : List Value) (y : DataW H × List MemPlace) (h : DataW.trod enc Tryz.prog w 0 (fun _ => true) held n 58 cs = some y) (hz : Wt Tryz.prog 58 y.1) : ∃ x : Nd, RNd w cs x := by
  obtain ⟨xs, m, -, rfl, hl, hx, hf⟩ := DataW.trod_struct Tryz.underlying58 h
  have hc5 : Tryz.prog.cellsOf 58 = 5 := by kernel_rfl
  have hxl : xs.length = 5 := hx
  rw [hc5] at hl
  match cs, hl with
  | [u0, u1, u2, u3, u4], _ =>
    match xs, hxl with
    | [x0, x1, x2, x3, x4], _ =>
      have k0 : Tryz.prog.cellsOf 55 = 1 := by kernel_rfl
      have k1 : Tryz.prog.cellsOf 9 = 1 := by kernel_rfl
      have k2 : Tryz.prog.cellsOf 3 = 1 := by kernel_rfl
      have k3 : Tryz.prog.cellsOf 51 = 1 := by kernel_rfl
      have k4 : Tryz.prog.cellsOf 56 = 1 := by kernel_rfl
      have h0 : DataW.trod enc Tryz.prog w 0 (fun _ => true) held m 55 (([u0, u1, u2, u3, u4].drop 0).take (Tryz.prog.cellsOf 55)) = [x0, x1, x2, x3, x4][0]? := hf 0 _ rfl
      have h1 : DataW.trod enc Tryz.prog w 0 (fun _ => true) held m 9 (([u0, u1, u2, u3, u4].drop 1).take (Tryz.prog.cellsOf 9)) = [x0, x1, x2, x3, x4][1]? := hf 1 _ rfl
      have h2 : DataW.trod enc Tryz.prog w 0 (fun _ => true) held m 3 (([u0, u1, u2, u3, u4].drop 2).take (Tryz.prog.cellsOf 3)) = [x0, x1, x2, x3, x4][2]? := hf 2 _ rfl
      have h3 : DataW.trod enc Tryz.prog w 0 (fun _ => true) held m 51 (([u0, u1, u2, u3, u4].drop 3).take (Tryz.prog.cellsOf 51)) = [x0, x1, x2, x3, x4][3]? := hf 3 _ rfl
      have h4 : DataW.trod enc Tryz.prog w 0 (fun _ => true) held m 56 (([u0, u1, u2, u3, u4].drop 4).take (Tryz.prog.cellsOf 56)) = [x0, x1, x2, x3, x4][4]? := hf 4 _ rfl
      have z3 : Wt Tryz.prog 51 x3.1 := hz.agg Tryz.underlying58 (j := 3) rfl rfl
      have z4 : Wt Tryz.prog 56 x4.1 := hz.agg Tryz.underlying58 (j := 4) rfl rfl
      rw [k0] at h0
      rw [k1] at h1
      rw [k2] at h2
      rw [k3] at h3
      rw [k4] at h4
      obtain ⟨a0, e0, rfl, w0⟩ := DataW.trod_int Tryz.underlying55 h0
      obtain ⟨a1, e1, rfl, w1⟩ := DataW.trod_string Tryz.underlying9 h1
      obtain ⟨a2, e2, rfl, w2⟩ := DataW.trod_int Tryz.underlying3 h2
      obtain ⟨ko, kn, kc, ks, e3, g3, l3, b3, -⟩ := strs_open Tryz.underlying51 h3 z3
      obtain ⟨jo, jn, jc, js, e4, g4, l4, b4⟩ := ints_open Tryz.underlying56 h4 z4
      simp only [List.drop_zero, List.drop_succ_cons, List.take_succ_cons, List.take_zero, List.cons.injEq, and_true] at e0 e1 e2 e3 e4
      subst e0 e1 e2 e3 e4
      have q3 : ks.length = kn := by have := g3.1; simpa using this
      have q4 : js.length = jn := g4.1
      exact ⟨⟨a0, a1.data.toList, a2, ks, js⟩, ⟨a0, a1.data.toList, a2, ko, kn, kc, jo, jn, jc⟩, rfl, ⟨rfl, rfl, rfl, g3, g4, l3, l4⟩, Lex.wf_bds w2, by show ks.length ≤ _; omega, by show js.length ≤ _; omega⟩
set_option maxRecDepth 100000 in
theorem func_open (n : Nat) (cs : List Value) (y : DataW H × List MemPlace) (h : DataW.trod enc Tryz.prog w 0 (fun _ => true) held n 53 cs = some y) (hz : Wt Tryz.prog 53 y.1) : ∃ x : Fw, RFw w cs x := by
  obtain ⟨xs, m, -, rfl, hl, hx, hf⟩ := DataW.trod_struct Tryz.underlying53 h
  have hc5 : Tryz.prog.cellsOf 53 = 3 := by kernel_rfl
  have hxl : xs.length = 3 := hx
  rw [hc5] at hl
  match cs, hl with
  | [u0, u1, u2], _ =>
    match xs, hxl with
    | [x0, x1, x2], _ =>
      have k1 : Tryz.prog.cellsOf 9 = 1 := by kernel_rfl
      have k2 : Tryz.prog.cellsOf 3 = 1 := by kernel_rfl
      have k3 : Tryz.prog.cellsOf 51 = 1 := by kernel_rfl
      have h0 : DataW.trod enc Tryz.prog w 0 (fun _ => true) held m 9 (([u0, u1, u2].drop 0).take (Tryz.prog.cellsOf 9)) = [x0, x1, x2][0]? := hf 0 _ rfl
      have h1 : DataW.trod enc Tryz.prog w 0 (fun _ => true) held m 51 (([u0, u1, u2].drop 1).take (Tryz.prog.cellsOf 51)) = [x0, x1, x2][1]? := hf 1 _ rfl
      have h2 : DataW.trod enc Tryz.prog w 0 (fun _ => true) held m 3 (([u0, u1, u2].drop 2).take (Tryz.prog.cellsOf 3)) = [x0, x1, x2][2]? := hf 2 _ rfl
      have z1 : Wt Tryz.prog 51 x1.1 := hz.agg Tryz.underlying53 (j := 1) rfl rfl
      rw [k1] at h0
      rw [k3] at h1
      rw [k2] at h2
      obtain ⟨a0, e0, rfl, w0⟩ := DataW.trod_string Tryz.underlying9 h0
      obtain ⟨po, k, pc, ps, e1, g1, l1, b1, s1⟩ := strs_open Tryz.underlying51 h1 z1
      obtain ⟨a2, e2, rfl, w2⟩ := DataW.trod_int Tryz.underlying3 h2
      simp only [List.drop_zero, List.drop_succ_cons, List.take_succ_cons, List.take_zero, List.cons.injEq, and_true] at e0 e1 e2
      subst e0 e1 e2
      have q1 : ps.length = k := by have := g1.1; simpa using this
      exact ⟨⟨a0.data.toList, ps, a2⟩, ⟨a0.data.toList, po, k, pc, a2⟩, rfl, ⟨rfl, rfl, g1, l1, s1⟩, by show ps.length ≤ _; omega⟩
set_option maxRecDepth 100000 in
/-- A program among a law's arguments. -/
theorem open_prog {r : Reach} {b0 : Nat} {v : Value} {d : DataW H} {p : List MemPlace} (hv : Value.okWide Tryz.prog w r b0 25 v) (h : DataW.Trod enc Tryz.prog w 0 (fun _ => true) held 25 v d p) (hz : Wt Tryz.prog 25 d) :
    ∃ (no fo : Option Addr) (n nc k fc : Nat) (L : List Nd) (F : List Fw), v = .agg #[.slice no n nc, .slice fo k fc] ∧ NArg w no n L ∧ FArg w fo k F ∧ n ≤ 4611686018427387904 ∧ k ≤ 4611686018427387904 ∧ WfN L ∧ ∀ x ∈ F, x.params.length ≤ 4611686018427387904 := by
  have hc2 : Tryz.prog.cellsOf 25 = 2 := by kernel_rfl
  obtain ⟨c0, c1, y0, y1, m, rfl, rfl, rfl, h0, h1⟩ := Joins.open_agg2 Tryz.underlying25 (by kernel_rfl) hc2 hv h
  have z0 : Wt Tryz.prog 22 y0.1 := hz.agg Tryz.underlying25 (j := 0) rfl rfl
  have z1 : Wt Tryz.prog 23 y1.1 := hz.agg Tryz.underlying25 (j := 1) rfl rfl
  have hn5 : Tryz.prog.cellsOf 58 = 5 := by kernel_rfl
  have hf3 : Tryz.prog.cellsOf 53 = 3 := by kernel_rfl
  have b5 : Tryz.prog.bytesOf 58 = 80 := by kernel_rfl
  have b3 : Tryz.prog.bytesOf 53 = 48 := by kernel_rfl
  obtain ⟨no, n, nc, L, e0, l0, w0, g0, r0⟩ := rows_open (R := RNd w) Tryz.underlying22 hn5 (by omega) node_open h0 z0
  obtain ⟨fo, k, fc, F, e1, l1, w1, g1, r1⟩ := rows_open (R := RFw w) Tryz.underlying23 hf3 (by omega) func_open h1 z1
  simp only [List.cons.injEq, and_true] at e0 e1
  subst e0 e1
  rw [b5] at w0
  rw [b3] at w1
  refine ⟨no, fo, n, nc, k, fc, L, F, rfl, ⟨l0, fun h0 => ?_⟩, ⟨l1, fun h0 => ?_⟩, reach_lt (by omega) w0, reach_lt (by omega) w1, fun x hx => ?_, fun x hx => ?_⟩
  · obtain ⟨b, off, ho, hr⟩ := r0 h0
    refine ⟨b, off, ho, fun i hi => ?_⟩
    obtain ⟨cs', -, ⟨v, rfl, hv, -⟩, hcell⟩ := hr i hi
    exact ⟨v, hv, hcell⟩
  · obtain ⟨b, off, ho, hr⟩ := r1 h0
    refine ⟨b, off, ho, fun i hi => ?_⟩
    obtain ⟨cs', -, ⟨v, rfl, hv, -⟩, hcell⟩ := hr i hi
    exact ⟨v, hv, hcell⟩
  · obtain ⟨cs, v, -, -, q1, q2, q3⟩ := g0 x hx
    exact ⟨q1, q2, q3⟩
  · obtain ⟨cs, v, -, -, q⟩ := g1 x hx
    exact q
end
end Syn
end Go.Proofs.YtinadbomebgfaaaGreatDoor

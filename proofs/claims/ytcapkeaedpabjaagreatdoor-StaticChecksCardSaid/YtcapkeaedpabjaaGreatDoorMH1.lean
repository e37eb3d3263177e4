/-
  Layer 8, texts merged: SpO. For every argument within the bounds that each theorem names.
-/
import Derived.Test.YtcapkeaedpabjaaGreatDoorMI1
import Derived.Test.YtcapkeaedpabjaaGreatDoorMG3
import Derived.Test.YtcapkeaedpabjaaGreatDoorMF2

/-
 Layer 8: a program as a law's argument.
-/
namespace Go.Proofs.YtcapkeaedpabjaaGreatDoor
open Go.RowKit Go.ChangeShapes Go.WideShapes Go.Deep
namespace Syn
section
variable {H : Type} {enc : TypeId × Value → H} {w : World} {held : Bool}
/-- No weight of an argument's part is above the reach. -/
def Wt (P : Program) (t : TypeId) (d : DataW H) : Prop := ∀ n ∈ d.weights P t, n ≤ reachBytes
theorem Wt.of {P : Program} {ts : List TypeId} {ds : List (DataW H)} (h : (DataW.weightsEach P ts ds).all (· ≤ reachBytes) = true) {j : Nat} {t : TypeId} {d : DataW H} (ht : ts[j]? = some t) (hd : ds[j]? = some d) : Wt P t d := fun n hn => by
 have := List.all_eq_true.1 h _ (DataW.weights_mem_each ht hd n hn)
 simpa using this
theorem wt_all {P : Program} {e : TypeId} {x : DataW H} {n : Nat} (hn : n ∈ x.weights P e) : ∀ {l : List (DataW H)}, x ∈ l → n ∈ DataW.weightsAll P e l
 | y :: r, h => by
  simp only [DataW.weightsAll, List.mem_append]
  rcases List.mem_cons.1 h with rfl | h
  ·exact Or.inl hn
  ·exact Or.inr (wt_all hn h)
theorem Wt.slice {P : Program} {t e : TypeId} {es sp : List (DataW H)} (hu : P.underlying t = some (.slice e)) (h : Wt P t (.slice es sp)) : es.length * P.bytesOf e ≤ reachBytes ∧ ∀ x ∈ es, Wt P e x := by
 refine ⟨?_, fun x hx n hn => h n (by simp only [DataW.weights, hu, List.mem_cons, List.mem_append]; exact Or.inr (Or.inl (wt_all hn hx)))⟩
 have := h ((es.length + sp.length) * P.bytesOf e) (by simp [DataW.weights, hu])
 exact Nat.le_trans (Nat.mul_le_mul_right _ (by omega)) this
theorem Wt.agg {P : Program} {t : TypeId} {fs : Array Field} {ps : List (DataW H)} (hu : P.underlying t = some (.struct fs)) (h : Wt P t (.agg ps)) {j : Nat} {f : Field} {d : DataW H} (hf : fs[j]? = some f) (hd : ps[j]? = some d) : Wt P f.type d := fun n hn => h n (by
 simp only [DataW.weights, hu]
 exact DataW.weights_mem_each (j := j) (by simp [hf]) hd n hn)
theorem reach_lt {n k : Nat} (hk : 0 < k) (h : n * k ≤ reachBytes) : n ≤ 4611686018427387904 := by
 have h1 := reachBytes_lt
 have h2 : (2 : Nat) ^ 47 = 140737488355328 := by decide
 have h3 : n * 1 ≤ n * k := Nat.mul_le_mul_left _ hk
 omega
theorem ints_open {fuel : Nat} {cs : List Value} {x : DataW H × List MemPlace} {t : TypeId} (ht : Tryz.prog.underlying t = some (.slice 3)) (h : DataW.trod enc Tryz.prog w 0 (fun _ => true) held fuel t cs = some x) (hz : Wt Tryz.prog t x.1) :
  ∃ (o : Option Addr) (n c : Nat) (l : List Int), cs = [.slice o n c] ∧ ZArg w o n l ∧ n ≤ c ∧ n ≤ 4611686018427387904 := by
 rcases open_ints ht Tryz.underlying3 (by kernel_rfl) h with ⟨hcs, hx⟩ | ⟨a, len, cap, zs, hcs, _, hl, hm, hz', rfl, hcell, hwf⟩
 ·exact ⟨none, 0, 0, [], hcs, ZArg.nil w none, Nat.le_refl _, by omega⟩
 ·simp only [if_true] at hz'
  have hb : Tryz.prog.bytesOf 3 = 8 := by kernel_rfl
  have h1 := (hz.slice ht).1
  rw [hb] at h1
  have h2 := reach_lt (by omega) h1
  simp only [lits, List.length_map, List.length_take] at h2
  refine ⟨some a, len, cap, zs.take len, hcs, ⟨by simp; omega, fun i hi => ⟨a, rfl, ?_⟩⟩, hl, by omega⟩
  have hi' : i < len := by simp at hi; omega
  rw [hcell i (by omega)]
  simp [List.getD, List.getElem?_eq_getElem (show i < zs.length by omega)]
/-- A slice of structs, each read by R. -/
theorem rows_open {α : Type} {t e : TypeId} {K : Nat} {R : List Value → α → Prop} {fuel : Nat} {cs : List Value} {x : DataW H × List MemPlace} (ht : Tryz.prog.underlying t = some (.slice e)) (hK : Tryz.prog.cellsOf e = K) (hK0 : 0 < K)
  (he : ∀ n cs y, DataW.trod enc Tryz.prog w 0 (fun _ => true) held n e cs = some y → Wt Tryz.prog e y.1 → ∃ x : α, R cs x)
  (h : DataW.trod enc Tryz.prog w 0 (fun _ => true) held fuel t cs = some x) (hz : Wt Tryz.prog t x.1) :
  ∃ (o : Option Addr) (n c : Nat) (l : List α), cs = [.slice o n c] ∧ l.length = n ∧ n * Tryz.prog.bytesOf e ≤ reachBytes ∧ (∀ x ∈ l, ∃ cs, R cs x) ∧ (0 < n → ∃ b off, o = some ⟨b, off, none⟩ ∧ ∀ i (h : i < l.length), ∃ cs' : List Value, cs'.length = K ∧ R cs' l[i] ∧ ∀ j u, cs'[j]? = some u → w.cell? ⟨b, off + i * K + j, none⟩ = some u) := by
 rcases open_slice ht h with ⟨rfl, rfl⟩ | ⟨a, len, cap, m, n', D, Pl, rfl, hb, hl, hm, hmm, rfl, hi⟩
 ·exact ⟨none, 0, 0, [], rfl, rfl, by omega, fun x hx => (by cases hx), fun h0 => absurd h0 (Nat.lt_irrefl 0)⟩
 ·simp only [if_true] at hmm
  subst hmm
  have hs := hz.slice ht
  have each : ∀ i, i < len → ∃ x : α, ∃ cs' : List Value, cs'.length = K ∧ R cs' x ∧ (∀ j, j < K → w.cell? ((a.add (i * K)).add j) = cs'[j]?) := fun i hil => by
   obtain ⟨cs', hcs, htr⟩ := hi i (by omega)
   obtain ⟨x, hx⟩ := he n' cs' _ htr (hs.2 _ (List.mem_map.2 ⟨i, List.mem_range.2 hil, rfl⟩))
   obtain ⟨-, hlen, hat⟩ := World.cells?_some hcs
   rw [hK] at hlen hat
   exact ⟨x, cs', hlen, hx, hat⟩
  have hsp : 0 < len → a.spot = none := fun h0 => by
   obtain ⟨x, cs', h1, -, h3⟩ := each 0 h0
   have h4 := h3 0 hK0
   have e : (a.add (0 * K)).add 0 = a := by unfold Addr.add; simp
   rw [e, List.getElem?_eq_getElem (by omega)] at h4
   exact Lex.spot_none h4
  rcases Nat.eq_zero_or_pos len with h0 | h0
  ·subst h0
   exact ⟨some a, 0, m, [], rfl, rfl, by omega, fun x hx => (by cases hx), fun h0 => absurd h0 (Nat.lt_irrefl 0)⟩
  ·have a0 := Classical.choice (let ⟨x, _⟩ := each 0 h0; (⟨x⟩ : Nonempty α))
   obtain ⟨f, hf⟩ : ∃ f : Nat → α, ∀ i, i < len → ∃ cs' : List Value, cs'.length = K ∧ R cs' (f i) ∧ (∀ j, j < K → w.cell? ((a.add (i * K)).add j) = cs'[j]?) :=
    ⟨fun i => if h : i < len then Classical.choose (each i h) else a0, fun i hi => by simp only [dif_pos hi]; exact Classical.choose_spec (each i hi)⟩
   refine ⟨some a, len, m, (List.range len).map f, rfl, by simp, by simpa using hs.1, fun x hx => ?_, fun _ => ?_⟩
   ·obtain ⟨i, hi', rfl⟩ := List.mem_map.1 hx
    obtain ⟨cs', -, h2, -⟩ := hf i (List.mem_range.1 hi')
    exact ⟨cs', h2⟩
   ·obtain ⟨ab, ao, asp⟩ := a
    have := hsp h0
    simp only at this
    subst this
    refine ⟨ab, ao, rfl, fun i hi' => ?_⟩
    have hil : i < len := by simpa using hi'
    obtain ⟨cs', h1, h2, h3⟩ := hf i hil
    refine ⟨cs', h1, by simpa using h2, fun j u hu => ?_⟩
    have hj : j < K := by
     rw [← h1]
     exact (List.getElem?_eq_some_iff.1 hu).1
    have := h3 j hj
    rw [Lex.add_none, Lex.add_none, hu] at this
    exact this
end
end Syn
end Go.Proofs.YtcapkeaedpabjaaGreatDoor

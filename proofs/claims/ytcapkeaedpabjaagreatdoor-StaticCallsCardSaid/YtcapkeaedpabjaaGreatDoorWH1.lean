/-
  Layer 8, texts merged: SpO. For every argument within the bounds that each theorem names.
-/
import Derived.Test.YtcapkeaedpabjaaGreatDoorWI1
import Derived.Test.YtcapkeaedpabjaaGreatDoorWG3
import Derived.Test.YtcapkeaedpabjaaGreatDoorWF2

/-
 Layer 8: a program as a law's argument.
-/
namespace Go.Proofs.YtcapkeaedpabjaaGreatDoor
open Go.RowKit Go.ChangeShapes Go.WideShapes Go.Deep
namespace Syn
section
variable {H : Type} {enc : TypeId × Value → H} {w : World} {held : Bool}
/-- No weight of an argument's part is above the reach. -/
def Wt (P : Program) (t : TypeId) (d : DataW H) : Prop := ∀ n ∈ d.weights P t, n ≤ reachBytes
theorem Wt.of {P : Program} {ts : List TypeId} {ds : List (DataW H)} (h : (DataW.weightsEach P ts ds).all (· ≤ reachBytes) = true) {j : Nat} {t : TypeId} {d : DataW H} (ht : ts[j]? = some t) (hd : ds[j]? = some d) : Wt P t d := fun n hn => by
 have := List.all_eq_true.1 h _ (DataW.weights_mem_each ht hd n hn)
 simpa using this
theorem wt_all {P : Program} {e : TypeId} {x : DataW H} {n : Nat} (hn : n ∈ x.weights P e) : ∀ {l : List (DataW H)}, x ∈ l → n ∈ DataW.weightsAll P e l
 | y :: r, h => by
  simp only [DataW.weightsAll, List.mem_append]
  rcases List.mem_cons.1 h with rfl | h
  ·exact Or.inl hn
  ·exact Or.inr (wt_all hn h)
theorem Wt.slice {P : Program} {t e : TypeId} {es sp : List (DataW H)} (hu : P.underlying t = some (.slice e)) (h : Wt P t (.slice es sp)) : es.length * P.bytesOf e ≤ reachBytes ∧ ∀ x ∈ es, Wt P e x := by
 refine ⟨?_, fun x hx n hn => h n (by simp only [DataW.weights, hu, List.mem_cons, List.mem_append]; exact Or.inr (Or.inl (wt_all hn hx)))⟩
 have := h ((es.length + sp.length) * P.bytesOf e) (by simp [DataW.weights, hu])
 exact Nat.le_trans (Nat.mul_le_mul_right _ (by omega)) this
theorem Wt.agg {P : Program} {t : TypeId} {fs : Array Field} {ps : List (DataW H)} (hu : P.underlying t = some (.struct fs)) (h : Wt P t (.agg ps)) {j : Nat} {f : Field} {d : DataW H} (hf : fs[j]? = some f) (hd : ps[j]? = some d) : Wt P f.type d := fun n hn => h n (by
 simp only [DataW.weights, hu]
 exact DataW.weights_mem_each (j := j) (by simp [hf]) hd n hn)
theorem reach_lt {n k : Nat} (hk : 0 < k) (h : n * k ≤ reachBytes) : n ≤ 4611686018427387904 := by
 have h1 := reachBytes_lt
 have h2 : (2 : Nat) ^ 47 = 140737488355328 := by decide
 have h3 : n * 1 ≤ n * k := Nat.mul_le_mul_left _ hk
 omega
theorem ints_open {fuel : Nat} {cs : List Value} {x : DataW H × List MemPlace} {t : TypeId} (ht : Tryz.prog.underlying t = some (.slice 3)) (h : DataW.trod enc Tryz.prog w 0 (fun _ => true) held fuel t cs = some x) (hz : Wt Tryz.prog t x.1) :
  ∃ (o : Option Addr) (n c : Nat) (l : List Int), cs = [.slice o n c] ∧ ZArg w o n l ∧ n ≤ c ∧ n ≤ 4611686018427387904 := by
 rcases open_ints ht Tryz.underlying3 (by kernel_rfl) h with ⟨hcs, hx⟩ | ⟨a, len, cap, zs, hcs, _, hl, hm, hz', rfl, hcell, hwf⟩
 ·exact ⟨none, 0, 0, [], hcs, ZArg.nil w none, Nat.le_refl _, by omega⟩
 ·simp only [if_true] at hz'
  have hb : Tryz.prog.bytesOf 3 = 8 := by kernel_rfl
  have h1 := (hz.slice ht).1
  rw [hb] at h1
  have h2 := reach_lt (by omega) h1
  simp only [lits, List.length_map, List.length_take] at h2
  refine ⟨some a, len, cap, zs.take len, hcs, ⟨by simp; omega, fun i hi => ⟨a, rfl, ?_⟩⟩, hl, by omega⟩
  have hi' : i < len := by simp at hi; omega
  rw [hcell i (by omega)]
  simp [List.getD, List.getElem?_eq_getElem (show i < zs.length by omega)]
end
end Syn
end Go.Proofs.YtcapkeaedpabjaaGreatDoor

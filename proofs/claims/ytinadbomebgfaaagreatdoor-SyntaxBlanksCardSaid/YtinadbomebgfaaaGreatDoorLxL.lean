/-
  Tokens and slices of tokens as arguments of a law; what the cell 'laid' of the rows gives; one world that fits; a world's shape kept by the wrap.
-/
import Derived.Test.YtinadbomebgfaaaGreatDoorMD4
import Derived.Test.YtinadbomebgfaaaGreatDoorRows
import Derived.Lib.SmallJoins
import Derived.ProofKit
import Derived.OpenShut
import Derived.ChangeMaps5
import Derived.Shelf.Vars
import Derived.HandedShaped
import Derived.Stop.LaidErr
import Derived.Lay
import Derived.LaidMore
import Derived.MakeChecks
import Derived.Deep.Slices
import Derived.ChangeArms
import Derived.SizedLaws
namespace Go.Proofs.YtinadbomebgfaaaGreatDoor
open Go.RowKit Go.ChangeShapes Go.WideShapes Go.Deep
namespace Lex

/-- A cell, as an argument is read. -/
def tokD {H : Type} (c : Tk) : DataW H := .agg [.lit (.int .i64 c.k), .lit (.string c.s), .lit (.int .i64 c.i), .lit (.int .i64 c.a)]
theorem wf_bds {a : Int} (h : (Lit.int .i64 a).wf = true) : -9223372036854775808 ≤ a ∧ a ≤ 9223372036854775807 := by
  have e1 : IntKind.i64.min = -9223372036854775808 := rfl
  have e2 : IntKind.i64.max = 9223372036854775807 := rfl
  simp [Lit.wf, e1, e2] at h
  omega
section
variable {H : Type} {enc : TypeId × Value → H} {w : World} {base : Nat} {spare : Nat → Bool} {held : Bool}
set_option maxRecDepth 100000 in
theorem cell_trod {n : Nat} {cs : List Value} {y : DataW H × List MemPlace} (h : DataW.trod enc Tryz.prog w base spare held n 45 cs = some y) :
    ∃ c : Tk, cs = [.int .i64 c.k, .string ⟨c.s.toArray⟩, .int .i64 c.i, .int .i64 c.a] ∧ y.1 = tokD c ∧ (-9223372036854775808 ≤ c.k ∧ c.k ≤ 9223372036854775807) ∧ (-9223372036854775808 ≤ c.i ∧ c.i ≤ 9223372036854775807) ∧ (-9223372036854775808 ≤ c.a ∧ c.a ≤ 9223372036854775807) := by
  obtain ⟨xs, m, -, rfl, hl, hx, hf⟩ := DataW.trod_struct Tryz.underlying45 h
  have hc4 : Tryz.prog.cellsOf 45 = 4 := by kernel_rfl
  have hxl : xs.length = 4 := hx
  rw [hc4] at hl
  match cs, hl with
  | [u0, u1, u2, u3], _ =>
    match xs, hxl with
    | [x0, x1, x2, x3], _ =>
      have k1 : Tryz.prog.cellsOf 43 = 1 := by kernel_rfl
      have k2 : Tryz.prog.cellsOf 3 = 1 := by kernel_rfl
      have k3 : Tryz.prog.cellsOf 9 = 1 := by kernel_rfl
      have h0 : DataW.trod enc Tryz.prog w base spare held m 43 (([u0, u1, u2, u3].drop 0).take (Tryz.prog.cellsOf 43)) = [x0, x1, x2, x3][0]? := hf 0 _ rfl
      have h1 : DataW.trod enc Tryz.prog w base spare held m 9 (([u0, u1, u2, u3].drop 1).take (Tryz.prog.cellsOf 9)) = [x0, x1, x2, x3][1]? := hf 1 _ rfl
      have h2 : DataW.trod enc Tryz.prog w base spare held m 3 (([u0, u1, u2, u3].drop 2).take (Tryz.prog.cellsOf 3)) = [x0, x1, x2, x3][2]? := hf 2 _ rfl
      have h3 : DataW.trod enc Tryz.prog w base spare held m 3 (([u0, u1, u2, u3].drop 3).take (Tryz.prog.cellsOf 3)) = [x0, x1, x2, x3][3]? := hf 3 _ rfl
      rw [k1] at h0
      rw [k2] at h2 h3
      rw [k3] at h1
      obtain ⟨a0, e0, rfl, w0⟩ := DataW.trod_int Tryz.underlying43 h0
      obtain ⟨a2, e1, rfl, w2⟩ := DataW.trod_string Tryz.underlying9 h1
      obtain ⟨a1, e2, rfl, w1⟩ := DataW.trod_int Tryz.underlying3 h2
      obtain ⟨a3, e3, rfl, w3⟩ := DataW.trod_int Tryz.underlying3 h3
      simp only [List.drop_zero, List.drop_succ_cons, List.take_succ_cons, List.take_zero, List.cons.injEq, and_true] at e0 e1 e2 e3
      refine ⟨⟨a0, a2.data.toList, a1, a3⟩, ?_, rfl, wf_bds w0, wf_bds w1, wf_bds w3⟩
      simp only [e0, e1, e2, e3]
end
/-- Tkls as an argument is read: whatever their strings' lengths. -/
def TRaw (w : World) (o : Option Addr) (n : Nat) (l : List Tk) : Prop := l.length = n ∧ (∀ c ∈ l, (-9223372036854775808 ≤ c.k ∧ c.k ≤ 9223372036854775807) ∧ (-9223372036854775808 ≤ c.i ∧ c.i ≤ 9223372036854775807) ∧ (-9223372036854775808 ≤ c.a ∧ c.a ≤ 9223372036854775807)) ∧ (0 < n → ∃ b off, o = some ⟨b, off, none⟩ ∧ ∀ i (h : i < l.length), TAt w b (off + i * 4) l[i])
theorem TRaw.arg {w : World} {o : Option Addr} {n : Nat} {l : List Tk} (h : TRaw w o n l) : TArg w o n l ∧ ∀ t ∈ l, FitT t := ⟨⟨h.1, h.2.2⟩, h.2.1⟩
theorem spot_none {w : World} {a : Addr} {v : Value} (h : w.cell? a = some v) : a.spot = none := by
  unfold World.cell? at h
  split at h
  · split at h
    · cases h
    · next hs => simpa using hs
  · cases h
theorem add_none {b off k : Nat} : (⟨b, off, none⟩ : Addr).add k = ⟨b, off + k, none⟩ := by
  unfold Addr.add
  split
  · next h => subst h; rfl
  · rfl
set_option maxRecDepth 100000 in
theorem toks_open {H : Type} {enc : TypeId × Value → H} {w : World} {held : Bool} {fuel : Nat} {cs : List Value} {x : DataW H × List MemPlace} {t : TypeId} (ht : Tryz.prog.underlying t = some (.slice 45))
    (h : DataW.trod enc Tryz.prog w 0 (fun _ => true) held fuel t cs = some x) :
    ∃ (o : Option Addr) (n c : Nat) (l : List Tk), cs = [.slice o n c] ∧ TRaw w o n l ∧ ((n = 0 ∧ x.1 = .nil) ∨ ∃ sp, x.1 = .slice (l.map tokD) sp) ∧ n ≤ c ∧ c ≤ maxLen := by
  have hc4 : Tryz.prog.cellsOf 45 = 4 := by kernel_rfl
  rcases open_slice ht h with ⟨rfl, rfl⟩ | ⟨a, len, cap, m, n', D, Pl, rfl, hb, hl, hm, hmm, rfl, hi⟩
  · exact ⟨none, 0, 0, [], rfl, ⟨rfl, fun c hc => (by cases hc), fun h0 => absurd h0 (Nat.lt_irrefl 0)⟩, Or.inl ⟨rfl, rfl⟩, Nat.le_refl _, by decide⟩
  · simp only [if_true] at hmm
    subst hmm
    have each : ∀ i, i < m → ∃ c : Tk, D i = tokD c ∧ ((-9223372036854775808 ≤ c.k ∧ c.k ≤ 9223372036854775807) ∧ (-9223372036854775808 ≤ c.i ∧ c.i ≤ 9223372036854775807) ∧ (-9223372036854775808 ≤ c.a ∧ c.a ≤ 9223372036854775807)) ∧ a.spot = none ∧ TAt w a.block (a.off + i * 4) c := fun i him => by
      obtain ⟨cs', hcs, htr⟩ := hi i him
      obtain ⟨c, rfl, hd, b1, b2, b3⟩ := cell_trod htr
      obtain ⟨-, -, hat⟩ := World.cells?_some hcs
      rw [hc4] at hat
      have q0 := hat 0 (by omega)
      have q1 := hat 1 (by omega)
      have q2 := hat 2 (by omega)
      have q3 := hat 3 (by omega)
      have hsp : a.spot = none := by
        by_cases hi0 : i = 0
        · subst hi0
          have e : (a.add (0 * 4)).add 0 = a := by unfold Addr.add; simp
          rw [e] at q0
          exact spot_none q0
        · cases ha : a.spot with
          | none => rfl
          | some z =>
            exfalso
            obtain ⟨cs0, hcs0, htr0⟩ := hi 0 (by omega)
            obtain ⟨c0, rfl, -⟩ := cell_trod htr0
            obtain ⟨-, -, hat0⟩ := World.cells?_some hcs0
            rw [hc4] at hat0
            have r0 := hat0 0 (by omega)
            have e : (a.add (0 * 4)).add 0 = a := by unfold Addr.add; simp
            rw [e] at r0
            have := spot_none r0
            rw [ha] at this
            cases this
      refine ⟨c, hd, ⟨b1, b2, b3⟩, hsp, ?_⟩
      obtain ⟨ab, ao, asp⟩ := a
      simp only at hsp
      subst hsp
      rw [add_none, add_none] at q0 q1 q2 q3
      exact ⟨q0, q1, q2, q3⟩
    obtain ⟨f, hf⟩ : ∃ f : Nat → Tk, ∀ i, i < m → D i = tokD (f i) ∧ ((-9223372036854775808 ≤ (f i).k ∧ (f i).k ≤ 9223372036854775807) ∧ (-9223372036854775808 ≤ (f i).i ∧ (f i).i ≤ 9223372036854775807) ∧ (-9223372036854775808 ≤ (f i).a ∧ (f i).a ≤ 9223372036854775807)) ∧ a.spot = none ∧ TAt w a.block (a.off + i * 4) (f i) :=
      ⟨fun i => if h : i < m then Classical.choose (each i h) else ⟨0, [], 0, 0⟩, fun i hi => by simp only [dif_pos hi]; exact Classical.choose_spec (each i hi)⟩
    refine ⟨some a, len, m, (List.range len).map f, rfl, ⟨by simp, fun c hc => ?_, fun h0 => ?_⟩, Or.inr ⟨(List.range (m - len)).map fun j => D (len + j), ?_⟩, hl, hm⟩
    · obtain ⟨i, hi', rfl⟩ := List.mem_map.1 hc
      rw [List.mem_range] at hi'
      exact (hf i (by omega)).2.1
    · obtain ⟨ab, ao, asp⟩ := a
      have hsp := (hf 0 (by omega)).2.2.1
      simp only at hsp
      subst hsp
      refine ⟨ab, ao, rfl, fun i hi' => ?_⟩
      have hil : i < len := by simpa using hi'
      have := (hf i (by omega)).2.2.2
      simpa using this
    · simp only [DataW.slice.injEq, and_true, List.map_map]
      refine List.map_congr_left fun i hi' => ?_
      rw [List.mem_range] at hi'
      exact (hf i (by omega)).1
theorem toks_arg {H : Type} {enc : TypeId × Value → H} {W : World} {o : Option Addr} {n c : Nat} {d : DataW H} {ps : List MemPlace} {t : TypeId}
    (h : DataW.Trod enc Tryz.prog W 0 (fun _ => true) true t (.slice o n c) d ps) (ht : Tryz.prog.underlying t = some (.slice 45)) :
    ∃ l : List Tk, TRaw W o n l ∧ (n = 0 ∨ ∃ sp, d = .slice (l.map tokD) sp) ∧ n ≤ c ∧ c ≤ maxLen := by
  obtain ⟨fuel, hf⟩ := h
  obtain ⟨o', n', c', l, hcs, hr, hd, hl, hm⟩ := toks_open ht hf
  simp [Value.cells] at hcs
  obtain ⟨rfl, rfl, rfl⟩ := hcs
  refine ⟨l, hr, ?_, hl, hm⟩
  rcases hd with ⟨h0, _⟩ | ⟨sp, h1⟩
  · exact Or.inl h0
  · exact Or.inr ⟨sp, h1⟩
section
variable {H : Type} {enc : TypeId × Value → H} {w : World} {base : Nat} {spare : Nat → Bool} {held : Bool}
theorem cellsTok : Tryz.prog.cellsOf 45 = 4 := by kernel_rfl
set_option maxRecDepth 100000 in
/-- A token among a law's arguments, opened. -/
theorem open_tok {r : Reach} {b0 : Nat} {v : Value} {d : DataW H} {p : List MemPlace} (hv : Value.okWide Tryz.prog w r b0 45 v) (h : DataW.Trod enc Tryz.prog w base spare held 45 v d p) :
    ∃ (a b c : Int) (s : ByteArray), v = .agg #[.int .i64 a, .string s, .int .i64 b, .int .i64 c] ∧ d = .agg [.lit (.int .i64 a), .lit (.string s.data.toList), .lit (.int .i64 b), .lit (.int .i64 c)] ∧ p = [] ∧ (Lit.int .i64 a).wf = true ∧ s.size ≤ maxLen ∧ (Lit.int .i64 b).wf = true ∧ (Lit.int .i64 c).wf = true := by
  obtain ⟨c0, c1, c2, c3, y0, y1, y2, y3, m, rfl, rfl, rfl, hy0, hy1, hy2, hy3⟩ := Joins.open_agg4 Tryz.underlying45 (by kernel_rfl) cellsTok hv h
  obtain ⟨a, e0, rfl, wa⟩ := DataW.trod_int Tryz.underlying43 hy0
  obtain ⟨s, e1, rfl, ws⟩ := DataW.trod_string Tryz.underlying9 hy1
  obtain ⟨b, e2, rfl, wb⟩ := DataW.trod_int Tryz.underlying3 hy2
  obtain ⟨c, e3, rfl, wc⟩ := DataW.trod_int Tryz.underlying3 hy3
  simp only [List.cons.injEq, and_true] at e0 e1 e2 e3
  subst e0 e1 e2 e3
  exact ⟨a, b, c, s, rfl, rfl, rfl, wa, ws, wb, wc⟩
theorem shut_tok {a b c : Int} {s : ByteArray} (wa : (Lit.int .i64 a).wf = true) (ws : s.size ≤ maxLen) (wb : (Lit.int .i64 b).wf = true) (wc : (Lit.int .i64 c).wf = true) :
    DataW.Trod enc Tryz.prog w base spare held 45 (.agg #[.int .i64 a, .string s, .int .i64 b, .int .i64 c]) (.agg [.lit (.int .i64 a), .lit (.string s.data.toList), .lit (.int .i64 b), .lit (.int .i64 c)]) [] :=
  Joins.shut_agg4 (y0 := (.lit (.int .i64 a), [])) (y1 := (.lit (.string s.data.toList), [])) (y2 := (.lit (.int .i64 b), [])) (y3 := (.lit (.int .i64 c), [])) Tryz.underlying45 (by kernel_rfl) cellsTok ⟨1, trod_int_mk 0 Tryz.underlying43 wa⟩ (Joins.field_of_Trod (Go.ChangeMaps.shut_string Tryz.underlying9 ws) rfl) ⟨1, trod_int_mk 0 Tryz.underlying3 wb⟩ ⟨1, trod_int_mk 0 Tryz.underlying3 wc⟩
end
/-- What the library's variable holds, by the shape of the first world. -/
theorem ml_of {w : World} (h : w.ShapedOpen Tryz.prog) : ML w :=
  cell_of_shapedOpen_int (P := Tryz.prog) (g := 0) (t := 3) (zero := #[.int .i64 0]) h (of_decide_eq_true (by kernel_rfl)) (by kernel_rfl) rfl (by kernel_rfl) (by kernel_rfl) Tryz.underlying3
end Lex
/-- The list of the rows. -/
def laidS : List (String × DataW Unit) := [("unicode/utf8.acceptRanges", Rows.laid_unicode_utf8_acceptRanges), ("unicode/utf8.first", Rows.laid_unicode_utf8_first)]
noncomputable def laidWorldS (os : Os) : World := World.laidAll Tryz.prog os laidS
theorem laidWorldS_os (os : Os) : (laidWorldS os).os = os := World.laidAll_os _ _ _
theorem laidWorldS_met (os : Os) (args : Array Value) : laidMetH Tryz.prog laidS ((laidWorldS os).forCall (fun _ _ => 0) ⟨#[], args, []⟩).memory := by
  rw [MakeChecks.laidMetH_plain _ _ _ (by kernel_rfl)]
  exact laidMet_laidAll _ (by kernel_rfl) (by kernel_rfl)
set_option maxRecDepth 100000 in
/-- The wrap of a law's walk, with what the first world's shape gives. -/
theorem wrapS {H : Type} {enc : TypeId × Value → H} {os : Os} {f : FuncId} {fn : Func} {s : ChangeSpec} (own : ownKnob Tryz.checked.prog.godebug = none) (started : os.Started) (noInit : Tryz.checked.prog.inits.idxOf? f = none) (hfn : Tryz.checked.prog.funcs[f]? = some fn)
    (witness : ∃ (w : World) (tape : Tape) (i : Input), w.os = os ∧ (w.forCall tape i).Shaped Tryz.checked.prog ∧ i.vars = [] ∧ Input.okWide Tryz.checked.prog (w.forCall tape i) .any w.heap.size f i ∧
      ((s.pre enc Tryz.checked.prog fn [] false (w.forCall tape i).memory i.args ∧ laidMetH Tryz.prog laidS (w.forCall tape i).memory) ∧ sizedMet enc Tryz.checked.prog fn (OpenSpec.ofChange s) false (w.forCall tape i).memory i.args) ∧ ({} : Assume).holds Tryz.checked.prog (lone (Frame.enter Tryz.checked.prog f i.args .normal) [] (w.forCall tape i)))
    (walk : ∀ (W : World) (base : Nat) (args : Array Value) (ds gs : List (DataW H)) (before : List MemPlace), (∀ (j : Nat) t v, fn.params[j]? = some t → args[j]? = some v → Value.okWide Tryz.checked.prog W .any base t v) →
      DataW.Whole enc Tryz.checked.prog fn.params.toList s.vars false W args.toList ds gs before → (DataW.weightsEach Tryz.checked.prog (fn.params.toList ++ s.plain.varTypes Tryz.checked.prog) (ds ++ gs)).all (· ≤ reachBytes) = true → Lex.ML W →
      Calls Tryz.checked.prog f args W fun e W' => ∃ v, e = .returned v ∧ s.post enc Tryz.checked.prog fn false true false false W args v W') :
    ReturnsInHanded {} Tryz.checked os f .any (fun w args => (s.pre enc Tryz.checked.prog fn [] false w args ∧ laidMetH Tryz.prog laidS w) ∧ sizedMet enc Tryz.checked.prog fn (OpenSpec.ofChange s) false w args) (s.post enc Tryz.checked.prog fn false true false false) := by
  refine returnsInHanded_of_calls own started noInit witness ?_
  intro w tape i _ shape _ ok met _
  obtain ⟨_, _, _, fn2, h2, _, _, _, _, kinds⟩ := ok
  obtain rfl : fn2 = fn := Option.some.inj (h2.symm.trans hfn)
  obtain ⟨⟨⟨ds, gs, before, whole, _⟩, _⟩, size⟩ := met
  refine (walk (w.forCall tape i) w.heap.size i.args ds gs before kinds (DataW.Whole.of_heap (w' := w.forCall tape i) (by rfl) whole) (size.weights whole) (Lex.ml_of shape)).mono ?_
  rintro e W' ⟨v, rfl, post⟩
  exact ChangeSpec.post_blind post
theorem laidOut : laidOutB Tryz.prog = true := by kernel_rfl
end Go.Proofs.YtinadbomebgfaaaGreatDoor

/-
  Layer 4: the law Detects, out of what the functions of the layer say.
-/
import Derived.Test.YtkecellbbfhpoaaFrmL
import Derived.Laws.IdiomStrings
namespace Go.Proofs.Ytkecellbbfhpoaa
open Go.RowKit Go.ChangeShapes Go.WideShapes
namespace Frm
open Hsh

/-- The cells of a list of bytes in a block of one's own. -/
def Bytes (g : Nat) (l : List UInt8) (w : World) : Prop := ∀ j (h : j < l.length), w.cell? ⟨g, j, none⟩ = some (.int .u8 (l[j].toNat : Int)) ∧ w.frozen? ⟨g, j, none⟩ = false
theorem Bytes.step {g k : Nat} {l : List UInt8} {w : World} (h : Bytes g l w) (hk : k < l.length) (x : Nat) (hx : x < 256) : Bytes g (l.set k (UInt8.ofNat x)) (w.setCell ⟨g, k, none⟩ (.int .u8 (x : Int))) := fun j hj => by
  have hj' : j < l.length := by rw [List.length_set] at hj; exact hj
  refine ⟨?_, by rw [World.frozen?_setCell]; exact (h j hj').2⟩
  by_cases e : j = k
  · subst e
    rw [World.cell?_setCell_same _ _ _ (h j hj').1, List.getElem_set_self, UInt8.toNat_ofNat']
    congr 3
    omega
  · rw [World.cell?_setCell_other _ _ _ _ (fun h => e (Addr.mk.inj h).2.1.symm), List.getElem_set_ne (fun h => e h.symm)]
    exact (h j hj').1
theorem bytes_conv (s : ByteArray) (W : World) : ∃ c W', (convert 9 36 (.string s)).run Try.prog W = .ok (.slice (some ⟨W.heap.size, 0, none⟩) s.size c) W' ∧ Bel W W' ∧ Bytes W.heap.size s.toList W' ∧ s.size ≤ c := by
  refine ⟨_, _, run_bytes_of_string W 9 36 5 s Try.underlying9 Try.underlying36 Try.underlying5, ((Bel.refl W).drewN 1).alloc _, fun j hj => ?_, grownCap_ge _ _ _ _⟩
  have hj' : j < s.size := by rw [toL_len] at hj; exact hj
  have hd : W.drew.heap.size = W.heap.size := rfl
  constructor
  · rw [← hd, World.cell?_alloc_mark, bytesRow, Array.getElem?_append_left (by simpa using hj')]
    rw [Array.getElem?_map, Array.getElem?_eq_getElem (by simpa using hj')]
    simp only [Option.map_some, Option.some.injEq, Value.int.injEq, true_and]
    rw [toL_get s j hj']
    rfl
  · rw [← hd, World.frozen?_alloc_mark]
    have : s.size ≤ (bytesRow s (grownCap W s.size 0 5)).size := by
      unfold bytesRow
      rw [Array.size_append, Array.size_map]
      exact Nat.le_add_right _ _
    simp only [Bool.and_eq_false_imp, decide_eq_true_eq, decide_eq_false_iff_not]
    omega
theorem bytes_back (g n c : Nat) (l : List UInt8) (hl : l.length = n) (W : World) (h : Bytes g l W) : (convert 36 9 (.slice (some ⟨g, 0, none⟩) n c)).run Try.prog W = .ok (.string ⟨l.toArray⟩) W := by
  subst hl
  exact run_convert_bytes_back (P := Try.prog) W 36 9 5 ⟨g, 0, none⟩ c l Try.underlying36 Try.underlying5 Try.underlying9 (fun j hj => by
    rw [Lib.add_plain, Nat.zero_add]
    exact (h j hj).1)
theorem xor_byte {a c : Nat} (hc : c ≠ 0) : a ^^^ c ≠ a := fun h => hc (xor_lc (c := a) (by rw [h, Nat.xor_zero]))
set_option maxHeartbeats 8000000 in
set_option maxRecDepth 100000 in
theorem law_detects (hF : Says) (b more : ByteArray) (at_ : Int) (ch : Nat) (hch : ch < 256) (hb : b.size ≤ 140737488355328) (hm : more.size ≤ 140737488355328) (w : World) (hL : Lad w) :
    Calls Try.prog 8 #[.string b, .int .i64 at_, .int .u8 (ch : Int), .string more] w fun e w' => e = .returned (.bool true) ∧ Bel w w' := by
  have HL := Lib.hid hL
  have HF := Lib.hid hF
  have G0 : Hid (Bel w w) := Lib.hid (Bel.refl w)
  clear hL hF
  by_cases hB : 20000 < b.size
  · go_enter Try.func8, Try.ntmps8
    go_wp2_with fail
    refine (HF.out.awake w (HL.out.on G0.out)).mono ?_
    rintro e w1 ⟨rfl, g1⟩
    have G1 := Bel.trans G0.out g1
    go_wp2_with fail
    go_ret
    exact ⟨rfl, G1⟩
  · by_cases hM : 20000 < more.size
    · go_enter Try.func8, Try.ntmps8
      go_wp2_with fail
      refine (HF.out.awake w (HL.out.on G0.out)).mono ?_
      rintro e w1 ⟨rfl, g1⟩
      have G1 := Bel.trans G0.out g1
      go_wp2_with fail
      go_ret
      exact ⟨rfl, G1⟩
    · have hbl : b.toList.length ≤ 262136 := by rw [toL_len]; omega
      obtain ⟨S, hS⟩ : ∃ S : ByteArray, ⟨(frm b.toList).toArray⟩ = S := ⟨_, rfl⟩
      have hSl : S.toList = frm b.toList := by rw [← hS, tl']
      have hSs : S.size = b.size + 8 := by rw [← toL_len, hSl, frm_len, toL_len]
      have q1 := Lib.hid (HF.out.seals b w hb HL.out)
      rw [(sea_ok hbl).1, (sea_ok hbl).2, hS] at q1
      obtain ⟨M, hMe⟩ : ∃ M : ByteArray, S ++ more = M := ⟨_, rfl⟩
      have hMl : M.toList = frm b.toList ++ more.toList := by
        rw [← hMe, toL, ByteArray.data_append, Array.toList_append, ← toL, ← toL, hSl]
      have hMs : M.size = S.size + more.size := by rw [← hMe, ByteArray.size_append]
      have zo := op_good (opn_frm b.toList more.toList hbl)
      rw [← hMl, toL_len, show 8 + b.size = S.size by omega] at zo
      have q2 := Lib.hid (fun W (h : Bel w W) => HF.out.opens M W (by omega) (HL.out.on h))
      rw [zo.1, zo.2.1, zo.2.2, back_str] at q2
      have c1 : (9223372036854775807 < S.size + more.size) = False := eq_false (by omega)
      have HMe := Lib.hid hMe
      have HSl := Lib.hid hSl
      clear zo hMl hS hMe hSl hMs
      go_enter Try.func8, Try.ntmps8
      go_wp2_with fail
      refine q1.out.mono ?_
      rintro e w1 ⟨rfl, g1⟩
      have G1 := Lib.hid g1
      clear g1 q1 G0
      have c2 : ((S.size : Int) = (b.size : Int) + 8) = True := eq_true (by omega)
      have c3 : IntKind.i64.wrap ((b.size : Int) + 8) = (b.size : Int) + 8 := by rw [IntKind.wrap_i64]; omega
      have c4 := HMe.out
      go_wp2_with fail
      refine (q2.out w1 G1.out).mono ?_
      rintro e w2 ⟨rfl, g2⟩
      have G2 := Lib.hid (Bel.trans G1.out g2)
      clear g2 q2 G1 c4 HMe
      by_cases h0 : at_ < 0
      · go_wp2_with fail
        refine (HF.out.awake w2 (HL.out.on G2.out)).mono ?_
        rintro e w3 ⟨rfl, g3⟩
        have G3 := Bel.trans G2.out g3
        go_wp2_with fail
        go_ret
        exact ⟨rfl, G3⟩
      · by_cases h1 : (b.size : Int) + 8 ≤ at_
        · go_wp2_with fail
          refine (HF.out.awake w2 (HL.out.on G2.out)).mono ?_
          rintro e w3 ⟨rfl, g3⟩
          have G3 := Bel.trans G2.out g3
          go_wp2_with fail
          go_ret
          exact ⟨rfl, G3⟩
        · by_cases h2 : ch = 0
          · subst h2
            go_wp2_with fail
            refine (HF.out.awake w2 (HL.out.on G2.out)).mono ?_
            rintro e w3 ⟨rfl, g3⟩
            have G3 := Bel.trans G2.out g3
            go_wp2_with fail
            go_ret
            exact ⟨rfl, G3⟩
          · obtain ⟨j, rfl⟩ : ∃ j : Nat, at_ = (j : Int) := ⟨at_.toNat, by omega⟩
            have hj : j < S.toList.length := by rw [toL_len]; omega
            obtain ⟨cp, W3, cv, g3, hby, hcp⟩ := bytes_conv S w2
            have G3 := Lib.hid (Bel.trans G2.out g3)
            obtain ⟨hce, hfz⟩ := hby j hj
            obtain ⟨old, hold⟩ : ∃ old, S.toList[j].toNat = old := ⟨_, rfl⟩
            have hol : old < 256 := by rw [← hold]; exact S.toList[j].toNat_lt
            have hxl : old ^^^ ch < 256 := Nat.xor_lt_two_pow (n := 8) (by omega) (by omega)
            have hst := hby.step hj (old ^^^ ch) hxl
            have cb := bytes_back w2.heap.size (b.size + 8) cp _ (by rw [List.length_set, toL_len, hSs]) _ hst
            have hx8 := u8_xor_nat old ch hol hch
            have hne : UInt8.ofNat (old ^^^ ch) ≠ (frm b.toList)[j]'(by rw [frm_len, toL_len]; omega) := fun h => by
              have e1 := congrArg UInt8.toNat h
              have e2 : ((frm b.toList)[j]'(by rw [frm_len, toL_len]; omega)).toNat = old := by rw [← hold]; simp only [HSl.out]
              rw [e2, UInt8.toNat_ofNat'] at e1
              exact xor_byte h2 (by omega : old ^^^ ch = old)
            have hop := opn_changed b.toList more.toList hbl j (by rw [toL_len]; omega) _ hne
            rw [hold] at hce
            obtain ⟨X, hX⟩ : ∃ X, old ^^^ ch = X := ⟨_, rfl⟩
            rw [hX] at hx8 cb hop
            rw [HSl.out] at cb
            obtain ⟨Z, hZ⟩ : ∃ Z : ByteArray, ⟨((frm b.toList).set j (UInt8.ofNat X)).toArray⟩ = Z := ⟨_, rfl⟩
            have hZl : Z.toList = (frm b.toList).set j (UInt8.ofNat X) := by rw [← hZ, tl']
            have hZs : Z.size = b.size + 8 := by rw [← toL_len, hZl, List.length_set, frm_len, toL_len]
            rw [hZ] at cb
            obtain ⟨Y, hY⟩ : ∃ Y : ByteArray, Z ++ more = Y := ⟨_, rfl⟩
            have hYl : Y.toList = (frm b.toList).set j (UInt8.ofNat X) ++ more.toList := by
              rw [← hY, toL, ByteArray.data_append, Array.toList_append, ← toL, ← toL, hZl]
            have hYs : Y.size = Z.size + more.size := by rw [← hY, ByteArray.size_append]
            have c5 : (9223372036854775807 < Z.size + more.size) = False := eq_false (by omega)
            rw [← hYl] at hop
            have hG4 := G3.out.setCell (p := ⟨w2.heap.size, j, none⟩) G2.out.size (.int .u8 (X : Int))
            have G4 := Lib.hid hG4
            have q3 := Lib.hid (HF.out.opens Y _ (by omega) (HL.out.on hG4))
            obtain ⟨V, hV⟩ : ∃ V : ByteArray, ⟨(opB Y.toList).toArray⟩ = V := ⟨_, rfl⟩
            have hVl : V.toList = opB Y.toList := by rw [← hV, tl']
            obtain ⟨E, hE⟩ : ∃ E : Int, opE Y.toList = E := ⟨_, rfl⟩
            obtain ⟨N, hN⟩ : ∃ N : Nat, opN Y.toList = N := ⟨_, rfl⟩
            have hthree : (4 ≤ j ∧ E = 13) ∨ (j < 4 ∧ (E = 0) = False) ∨ (j < 4 ∧ E = 0 ∧ (V.toList == b.toList) = false) := by
              rcases Nat.lt_or_ge j 4 with h4 | h4
              · cases ho : opn Y.toList with
                | error bad =>
                  refine Or.inr (Or.inl ⟨h4, eq_false ?_⟩)
                  rw [← hE, (op_bad ho).2.2]
                  cases bad <;> decide
                | ok x =>
                  obtain ⟨b', n'⟩ := x
                  refine Or.inr (Or.inr ⟨h4, ?_, ?_⟩)
                  · rw [← hE, (op_good ho).2.2]
                  · rw [hVl, (op_good ho).1, beq_eq_false_iff_ne]
                    intro e
                    exact hop.2 n' (by rw [ho, e])
              · exact Or.inl ⟨h4, by rw [← hE, (op_bad (hop.1 h4)).2.2]; rfl⟩
            rw [hV, hE, hN] at q3
            have HY := Lib.hid hY
            clear hop hst hby hV hVl hE hN hne hold hX hZ hZl hYl hY hYs g3 hG4
            have i1 : (j : Int) < (b.size : Int) + 8 := by omega
            have c6 := HY.out
            have h2' : ((ch : Int) == 0) = false := beq_eq_false_iff_ne.2 (by omega)
            go_wp2_with fail
            refine q3.out.mono ?_
            rintro e w4 ⟨rfl, g4⟩
            have G5 := Lib.hid (Bel.trans G4.out g4)
            clear cb cv c6 g4 q3
            rcases hthree with ⟨t1, t2⟩ | ⟨t1, t2⟩ | ⟨t1, t2, t3⟩
            · subst t2
              go_wp2_with fail
              refine (HF.out.awake w4 (HL.out.on G5.out)).mono ?_
              rintro e w6 ⟨rfl, g6⟩
              have G6 := Bel.trans G5.out g6
              go_wp2_with fail
              go_ret
              exact ⟨rfl, G6⟩
            · have t4 : (4 ≤ (j : Int)) = False := eq_false (by omega)
              go_wp2_with fail
              refine (HF.out.awake w4 (HL.out.on G5.out)).mono ?_
              rintro e w6 ⟨rfl, g6⟩
              have G6 := Bel.trans G5.out g6
              go_wp2_with fail
              go_ret
              exact ⟨rfl, G6⟩
            · subst t2
              have t4 : (4 ≤ (j : Int)) = False := eq_false (by omega)
              go_wp2_with fail
              refine (HF.out.awake w4 (HL.out.on G5.out)).mono ?_
              rintro e w6 ⟨rfl, g6⟩
              have G6 := Bel.trans G5.out g6
              go_wp2_with fail
              go_ret
              exact ⟨rfl, G6⟩
theorem law_detects_int (hF : Says) (b more : ByteArray) (at_ a : Int) (ha : ∃ n : Nat, a = (n : Int) ∧ n < 256) (hb : b.size ≤ 140737488355328) (hm : more.size ≤ 140737488355328) (w : World) (hL : Lad w) :
    Calls Try.prog 8 #[.string b, .int .i64 at_, .int .u8 a, .string more] w fun e w' => e = .returned (.bool true) ∧ Bel w w' := by
  obtain ⟨n, rfl, h⟩ := ha
  exact law_detects hF b more at_ n h hb hm w hL
end Frm
end Go.Proofs.Ytkecellbbfhpoaa

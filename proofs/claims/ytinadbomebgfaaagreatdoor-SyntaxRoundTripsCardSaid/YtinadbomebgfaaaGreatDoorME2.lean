/-
  Layer 8, texts merged: SynI, SynJ, SynK. For every argument within the bounds that each theorem names.
-/
import Derived.Test.YtinadbomebgfaaaGreatDoorME1

/-
  Layer 8, plainly: the tokens of a printed program are read as the program.
-/
namespace Go.Proofs.YtinadbomebgfaaaGreatDoor
namespace Syn
theorem head_word {m : Nat} {c : Ck} (h : headB' m c = true) {s : Txt} (hs : s = [108, 101, 116] ∨ s = [105, 102] ∨ s = [119, 104, 105, 108, 101] ∨ s = [114, 101, 116, 117, 114, 110] ∨ s = [101, 108, 115, 101] ∨ s = [102, 117, 110, 99]) : isT s c = false := by
  obtain ⟨k, s', i⟩ := c
  cases e : isT s (k, s', i) with
  | false => rfl
  | true =>
    exfalso
    unfold isT inT at e
    simp at e
    obtain ⟨e1, rfl⟩ := e
    unfold headB' notW at h
    rcases e1 with rfl | rfl <;> rcases hs with rfl | rfl | rfl | rfl | rfl | rfl <;> simp at h
theorem cks_tabs (d : Nat) (l : List It) : cks (tabs d ++ l) = cks l := by
  induction d with
  | zero => rfl
  | succ d ih => show cks (.gap 9 :: (tabs d ++ l)) = _; rw [cks_gap]; exact ih
theorem itB_eq (d : Nat) (k : Int) (s : Txt) (i : Int) (ks : List Txt) (ts : Ts) : itB d (.node k s i ks ts) = sI [123] :: .gap 10 :: lines (d + 1) ts ++ tabs d ++ [sI [125]] := by rw [itB]
theorem itS_let (d : Nat) (s : Txt) (e : T) : itS d (.node 13 s 0 [] (.cons e .nil)) = wI [108, 101, 116] :: sp :: nI s :: sp :: sI [61] :: sp :: opd 1 e ++ [sI [59]] := by rw [itS]; rfl
theorem itS_set (d : Nat) (s : Txt) (e : T) : itS d (.node 14 s 0 [] (.cons e .nil)) = nI s :: sp :: sI [61] :: sp :: opd 1 e ++ [sI [59]] := by rw [itS]; rfl
theorem itS_if1 (d : Nat) (e b : T) : itS d (.node 15 [] 0 [] (.cons e (.cons b .nil))) = wI [105, 102] :: sp :: opd 1 e ++ sp :: itB d b := by
  rw [itS, itBs, itBs, itBs]
  show wI [105, 102] :: sp :: opd 1 e ++ sp :: itB d b ++ [] = _
  rw [List.append_nil]
theorem itS_if2 (d : Nat) (e b f : T) : itS d (.node 15 [] 0 [] (.cons e (.cons b (.cons f .nil)))) = wI [105, 102] :: sp :: opd 1 e ++ sp :: itB d b ++ sp :: wI [101, 108, 115, 101] :: sp :: itB d f := by
  rw [itS, itBs, itBs, itBs, itBs]
  rfl
theorem itS_wh (d : Nat) (e b : T) : itS d (.node 16 [] 0 [] (.cons e (.cons b .nil))) = wI [119, 104, 105, 108, 101] :: sp :: opd 1 e ++ sp :: itB d b := by
  rw [itS, itBs, itBs, itBs]
  rfl
theorem itS_ret (d : Nat) (e : T) : itS d (.node 17 [] 0 [] (.cons e .nil)) = wI [114, 101, 116, 117, 114, 110] :: sp :: opd 1 e ++ [sI [59]] := by rw [itS]; rfl
theorem itS_do (d : Nat) (e : T) : itS d (.node 18 [] 0 [] (.cons e .nil)) = opd 1 e ++ [sI [59]] := by rw [itS]; rfl
theorem lines_nil (d : Nat) : lines d .nil = [] := by rw [lines]
theorem lines_cons (d : Nat) (t : T) (r : Ts) : lines d (.cons t r) = tabs d ++ itS d t ++ .gap 10 :: lines d r := by rw [lines]
/-- An expression and a semicolon. -/
theorem end_reads {e : T} (h : GE e) (k : Int) (s : Txt) (r : List Ck) : Ev (fun n => rdN n k s (cks (opd 1 e) ++ (5, [59], 0) :: r)) (.ok (.node k s 0 [] (.cons e .nil)) r) := by
  obtain ⟨m, hm⟩ := opd_reads h 1 (by omega) (by omega) ((5, [59], 0) :: r) (stop_tok (by decide) 1)
  refine ⟨m, fun n hn => ?_⟩
  have e := hm n hn
  dsimp only at e
  dsimp only
  rw [rdN, e]
  dsimp only
  rw [if_pos (by rfl)]
  rfl
/-- A statement's first token. -/
theorem stmt_head {t : T} (h : GdS t) (d : Nat) : ∃ c r, cks (itS d t) = c :: r ∧ isT [125] c = false ∧ isT [101, 108, 115, 101] c = false := by
  have he : ∀ {e : T}, GE e → ∃ c r, cks (opd 1 e ++ [sI [59]]) = c :: r ∧ isT [125] c = false ∧ isT [101, 108, 115, 101] c = false := fun {e} h => by
    obtain ⟨⟨c, r, h1, h2⟩, -⟩ := begins_opd (begins h) 1
    exact ⟨c, r ++ _, by rw [cks_app, h1, List.cons_append], head_sym h2 (by simp), head_word h2 (by simp)⟩
  cases h with
  | lt s e hs h => rw [itS_let]; exact ⟨_, _, rfl, rfl, rfl⟩
  | set s e hs h => rw [itS_set]; exact ⟨_, _, rfl, rfl, rfl⟩
  | if1 e b h hb => rw [itS_if1]; exact ⟨_, _, rfl, rfl, rfl⟩
  | if2 e b f h hb hd => rw [itS_if2]; exact ⟨_, _, rfl, rfl, rfl⟩
  | wh e b h hb => rw [itS_wh]; exact ⟨_, _, rfl, rfl, rfl⟩
  | ret e h => rw [itS_ret]; exact ⟨_, _, rfl, rfl, rfl⟩
  | drop e h => rw [itS_do]; exact he h
theorem cond_reads {e : T} (h : GE e) {b : T} {L : List It} {c : Ck} {q : List Ck} (hc : cks L = c :: q) (hs : ∀ l, Stop l (c :: q)) (hr : List Ck) (hb : Ev (fun n => rdB n (cks L ++ hr)) (.ok b hr)) (k : Int) (hk : ¬ (k = 15 ∧ isT [101, 108, 115, 101] (hd hr) = true)) : Ev (fun n => rdC n k (cks (opd 1 e) ++ (cks L ++ hr))) (.ok (.node k [] 0 [] (.cons e (.cons b .nil))) hr) := by
  have hst : Stop 1 (cks L ++ hr) := by rw [hc]; exact hs 1
  obtain ⟨m1, h1⟩ := opd_reads h 1 (by omega) (by omega) _ hst
  obtain ⟨m2, h2⟩ := hb
  refine Ev.step (m1 + m2) fun n hn => ?_
  have e1 := h1 n (by omega)
  have e2 := h2 n (by omega)
  dsimp only at e1 e2
  rw [rdC, e1]
  dsimp only
  rw [e2]
  dsimp only
  rw [if_neg hk]
theorem block_head (d : Nat) (t : T) : ∃ q, cks (itB d t) = (5, [123], 0) :: q := by
  cases t
  rw [itB_eq]
  exact ⟨_, rfl⟩
mutual
theorem stmt_reads : ∀ {t : T}, GdS t → ∀ (d : Nat) (r : List Ck), isT [101, 108, 115, 101] (hd r) = false → Ev (fun n => rdS n (cks (itS d t) ++ r)) (.ok t r)
  | _, .lt s e hs h, d, r, hr => by
    obtain ⟨m, hm⟩ := end_reads h 13 s r
    refine Ev.step m fun n hn => ?_
    have q := hm n hn
    dsimp only at q
    rw [itS_let]
    simp only [List.cons_append, cks_w, cks_sp, cks_n, cks_s, cks_app, cks_nil, List.append_assoc, List.nil_append]
    rw [rdS, if_pos (by rfl), List.tail_cons, rdA, if_pos (by rfl), List.tail_cons, if_pos (by rfl)]
    exact q
  | _, .set s e hs h, d, r, hr => by
    obtain ⟨m, hm⟩ := end_reads h 14 s r
    refine Ev.step m fun n hn => ?_
    have q := hm n hn
    dsimp only at q
    rw [itS_set]
    simp only [List.cons_append, cks_sp, cks_n, cks_s, cks_app, cks_nil, List.append_assoc, List.nil_append]
    rw [rdS, if_neg (by exact ng rfl), if_pos (by rfl), rdA, if_pos (by rfl), List.tail_cons, if_pos (by rfl)]
    exact q
  | _, .if1 e b h hb, d, r, hr => by
    obtain ⟨q, hq⟩ := block_head d b
    obtain ⟨m, hm⟩ := cond_reads h hq (fun l => stop_tok (by decide) l) r (block_reads hb d r) 15 (by rw [hr]; simp)
    refine Ev.step m fun n hn => ?_
    have q := hm n hn
    dsimp only at q
    rw [itS_if1]
    simp only [List.cons_append, cks_w, cks_sp, cks_app, List.append_assoc]
    rw [rdS, if_neg (by exact ng rfl), if_neg (by exact ng (setB_ne (by show (2 : Int) ≠ 1; decide))), if_pos (by rfl), List.tail_cons]
    exact q
  | _, .if2 e b f h hb hf, d, r, hr => by
    obtain ⟨q, hq⟩ := block_head d b
    have hst : Stop 1 (cks (itB d b) ++ (2, [101, 108, 115, 101], 0) :: (cks (itB d f) ++ r)) := by rw [hq]; exact stop_tok (by decide) 1
    obtain ⟨m1, h1⟩ := opd_reads h 1 (by omega) (by omega) _ hst
    obtain ⟨m2, h2⟩ := block_reads hb d ((2, [101, 108, 115, 101], 0) :: (cks (itB d f) ++ r))
    obtain ⟨m3, h3⟩ := block_reads hf d r
    refine Ev.step (m1 + m2 + m3 + 1) fun n hn => ?_
    obtain ⟨n, rfl⟩ : ∃ m, n = m + 1 := ⟨n - 1, by omega⟩
    have e1 := h1 n (by omega)
    have e2 := h2 n (by omega)
    have e3 := h3 n (by omega)
    dsimp only at e1 e2 e3
    rw [itS_if2]
    simp only [List.cons_append, cks_w, cks_sp, cks_app, List.append_assoc]
    rw [rdS, if_neg (by exact ng rfl), if_neg (by exact ng (setB_ne (by show (2 : Int) ≠ 1; decide))), if_pos (by rfl), List.tail_cons, rdC, e1]
    dsimp only
    rw [e2]
    dsimp only
    rw [if_pos ⟨rfl, by rfl⟩, List.tail_cons, e3]
  | _, .wh e b h hb, d, r, hr => by
    obtain ⟨q, hq⟩ := block_head d b
    obtain ⟨m, hm⟩ := cond_reads h hq (fun l => stop_tok (by decide) l) r (block_reads hb d r) 16 (by simp)
    refine Ev.step m fun n hn => ?_
    have q := hm n hn
    dsimp only at q
    rw [itS_wh]
    simp only [List.cons_append, cks_w, cks_sp, cks_app, List.append_assoc]
    rw [rdS, if_neg (by exact ng rfl), if_neg (by exact ng (setB_ne (by show (2 : Int) ≠ 1; decide))), if_neg (by exact ng rfl), if_pos (by rfl), List.tail_cons]
    exact q
  | _, .ret e h, d, r, hr => by
    obtain ⟨m, hm⟩ := end_reads h 17 [] r
    refine Ev.step m fun n hn => ?_
    have q := hm n hn
    dsimp only at q
    rw [itS_ret]
    simp only [List.cons_append, cks_w, cks_sp, cks_s, cks_app, cks_nil, List.append_assoc, List.nil_append]
    rw [rdS, if_neg (by exact ng rfl), if_neg (by exact ng (setB_ne (by show (2 : Int) ≠ 1; decide))), if_neg (by exact ng rfl), if_neg (by exact ng rfl), if_pos (by rfl), List.tail_cons]
    exact q
  | _, .drop e h, d, r, hr => by
    obtain ⟨m, hm⟩ := end_reads h 18 [] r
    refine Ev.step m fun n hn => ?_
    have q := hm n hn
    dsimp only at q
    rw [itS_do, cks_app, cks_s, cks_nil, List.append_assoc, List.cons_append, List.nil_append]
    have hb := begins_opd (begins h) 1
    have hh := head_app hb ((5, [59], 0) :: r)
    rw [rdS, if_neg (by exact ng (head_word hh (by simp))), if_neg (by exact ng (hb.2 _ rfl)), if_neg (by exact ng (head_word hh (by simp))), if_neg (by exact ng (head_word hh (by simp))), if_neg (by exact ng (head_word hh (by simp)))]
    exact q
theorem block_reads : ∀ {t : T}, GdB t → ∀ (d : Nat) (r : List Ck), Ev (fun n => rdB n (cks (itB d t) ++ r)) (.ok t r)
  | _, .blk ts h, d, r => by
    obtain ⟨m, hm⟩ := lines_reads h .nil (d + 1) r
    refine Ev.step m fun n hn => ?_
    have q := hm n hn
    dsimp only at q
    rw [itB_eq]
    simp only [List.cons_append, cks_s, cks_gap, cks_app, List.append_assoc, cks_nil, List.nil_append]
    rw [show cks (tabs d) = [] by have := cks_tabs d []; rwa [List.append_nil] at this, List.nil_append, rdB, if_pos (by rfl), List.tail_cons]
    exact q
theorem lines_reads : ∀ {ts : Ts}, GdSs ts → ∀ (acc : Ts) (d : Nat) (r : List Ck), Ev (fun n => rdZ n acc (cks (lines d ts) ++ (5, [125], 0) :: r)) (.ok (.node 19 [] 0 [] (app acc ts)) r)
  | _, .nil, acc, d, r => by
    refine Ev.step 0 fun n _ => ?_
    rw [lines_nil, cks_nil, List.nil_append, rdZ, if_pos (by rfl), app_nil]
    rfl
  | _, .cons t q h hr, acc, d, r => by
    rw [lines_cons, List.append_assoc, cks_tabs, cks_app, cks_gap, List.append_assoc]
    have hne : isT [101, 108, 115, 101] (hd (cks (lines d q) ++ (5, [125], 0) :: r)) = false := by
      cases hr with
      | nil => rw [lines_nil]; rfl
      | cons u q2 hu hq2 =>
        obtain ⟨c, z, h1, -, h2⟩ := stmt_head hu d
        rw [lines_cons, List.append_assoc, cks_tabs, cks_app, h1]
        exact h2
    obtain ⟨m1, h1⟩ := stmt_reads h d _ hne
    obtain ⟨m2, h2⟩ := lines_reads hr (snoc acc t) d r
    refine Ev.step (m1 + m2) fun n hn => ?_
    have e1 := h1 n (by omega)
    have e2 := h2 n (by omega)
    dsimp only at e1 e2
    obtain ⟨c, z, g1, g2, -⟩ := stmt_head h d
    rw [rdZ, if_neg (ng (by rw [g1]; exact g2)), e1]
    dsimp only
    rw [e2]
    unfold snoc
    rw [app_assoc]
    rfl
end
theorem names_cons (p : Txt) (r : List Txt) : (p :: r).map (fun s => [nI s]) = [nI p] :: r.map fun s => [nI s] := rfl
theorem names_reads : ∀ (r : List Txt) (p : Txt) (ps : List Txt) (X : List Ck), Ev (fun n => rdM n ps (cks (sep ((p :: r).map fun s => [nI s])) ++ (5, [41], 0) :: X)) (.ok (ps ++ p :: r) X)
  | [], p, ps, X => Ev.step 0 fun n _ => by
    rw [rdM]
    rfl
  | u :: r, p, ps, X => by
    obtain ⟨m, hm⟩ := names_reads r u (ps ++ [p]) X
    refine Ev.step m fun n hn => ?_
    have e := hm n hn
    dsimp only at e
    rw [names_cons, names_cons, sep_cons, ← names_cons, List.cons_append, List.nil_append, cks_n, cks_s, cks_sp, List.cons_append, List.cons_append, rdM, if_pos (by rfl), List.tail_cons, if_pos (by rfl), List.tail_cons]
    show rdM n (ps ++ [p]) _ = _
    rw [e, List.append_assoc]
    rfl
theorem fun_reads (f : Fu) (h : GdB f.body) (X : List Ck) : ∃ k, ∀ n, k ≤ n → rdF n ((cks (itF f) ++ X).tail) = .ok f X := by
  obtain ⟨m1, h1⟩ := block_reads h 0 X
  obtain ⟨name, params, body⟩ := f
  dsimp only at h1
  have hx : (cks (itF ⟨name, params, body⟩) ++ X).tail = (1, name, 0) :: (5, [40], 0) :: (cks (sep (params.map fun s => [nI s])) ++ (5, [41], 0) :: (cks (itB 0 body) ++ X)) := by
    unfold itF
    simp only [List.cons_append, cks_w, cks_sp, cks_n, cks_s, cks_app, List.append_assoc, List.tail_cons, cks_gap, cks_nil, List.nil_append]
  rw [hx]
  cases params with
  | nil =>
    refine ⟨m1, fun n hn => ?_⟩
    have e1 := h1 n hn
    rw [rdF, if_pos (by rfl), List.tail_cons, if_pos (by rfl), List.tail_cons]
    rw [show sep (([] : List Txt).map fun s => [nI s]) = [] from rfl, cks_nil, List.nil_append, if_pos (by rfl)]
    dsimp only
    rw [List.tail_cons, e1]
    rfl
  | cons p r =>
    obtain ⟨m2, h2⟩ := names_reads r p [] (cks (itB 0 body) ++ X)
    refine ⟨m1 + m2, fun n hn => ?_⟩
    have e1 := h1 n (by omega)
    have e2 := h2 n (by omega)
    dsimp only at e2
    have hne : isT [41] (hd (cks (sep ((p :: r).map fun s => [nI s])) ++ (5, [41], 0) :: (cks (itB 0 body) ++ X))) = false := by
      cases r <;> rfl
    rw [rdF, if_pos (by rfl), List.tail_cons, if_pos (by rfl), List.tail_cons, if_neg (ng hne), e2]
    dsimp only
    rw [e1]
    rfl
theorem good_body {f : Fu} (h : goodFu f) : GdB f.body := (good_kinds f.body h.1).2.2 (by rw [h.2.1]; rfl)
theorem funs_read : ∀ (fs acc : List Fu), (∀ f ∈ fs, goodFu f) → Ev (fun n => rdG n acc (cks (itW fs))) (.ok (acc ++ fs) [])
  | [], acc, _ => Ev.step 0 fun n _ => by
    show rdG (n + 1) acc [] = _
    rw [rdG, if_neg (by exact ng rfl), if_pos rfl, List.append_nil]
  | f :: fs, acc, h => by
    obtain ⟨m1, h1⟩ := fun_reads f (good_body (h f (List.mem_cons_self ..))) (cks (itW fs))
    obtain ⟨m2, h2⟩ := funs_read fs (acc ++ [f]) fun g hg => h g (List.mem_cons_of_mem _ hg)
    refine Ev.step (m1 + m2) fun n hn => ?_
    have e1 := h1 n (by omega)
    have e2 := h2 n (by omega)
    dsimp only at e2
    have hw : cks (itW (f :: fs)) = cks (itF f) ++ cks (itW fs) := cks_app _ _
    rw [hw, rdG, if_pos (by rfl), e1]
    dsimp only
    rw [e2, List.append_assoc]
    rfl
/-- A printed program's tokens are read as the program. -/
theorem prog_reads (fs : List Fu) (h : ∀ f ∈ fs, goodFu f) : ∃ k, ∀ n, k ≤ n → rdG n [] (cks (itW fs)) = .ok fs [] := funs_read fs [] h
end Syn
end Go.Proofs.YtinadbomebgfaaaGreatDoor

/-
  Layer 8, plainly: a printed program's text is split into its tokens, unless there are too many or it is too long.
-/
namespace Go.Proofs.YtinadbomebgfaaaGreatDoor
namespace Syn
/-- Each piece may be followed by what follows it. -/
def FitJ : List It → Txt → Prop
  | [], _ => True
  | .tok c :: l, r => (Lex.okT (tk c) = true ∧ ∀ b, (txt l ++ r).head? = some b → Lex.fitB (tk c) b = true ∧ b ≠ 47) ∧ FitJ l r
  | .gap b :: l, r => Lex.blankB b = true ∧ FitJ l r
theorem fitJ_app : ∀ (a b : List It) (r : Txt), FitJ (a ++ b) r ↔ FitJ a (txt b ++ r) ∧ FitJ b r
  | [], b, r => by simp [FitJ]
  | .tok c :: l, b, r => by
    rw [List.cons_append, FitJ, FitJ, fitJ_app l b r, txt_app, List.append_assoc]
    simp only [and_assoc]
  | .gap c :: l, b, r => by
    rw [List.cons_append, FitJ, FitJ, fitJ_app l b r, and_assoc]
theorem wrt_skip (t : Lex.Tk) (r : Txt) (h : Lex.okT t = true) (hr : ∀ c, r.head? = some c → Lex.fitB t c = true ∧ c ≠ 47) : Lex.wrt t ++ r ≠ [] ∧ Lex.skipN false (Lex.wrt t ++ r) = 0 := by
  have hb := Lex.read_wrt t r h (fun c hc => (hr c hc).1)
  have hn : (Lex.rdT (Lex.wrt t ++ r)).e = 0 := by rw [hb]
  have hp := Lex.rd_pos hn
  rw [hb] at hp
  dsimp only at hp
  cases hw : Lex.wrt t with
  | nil => rw [hw] at hp; simp at hp
  | cons c q =>
    rw [hw] at hb hn
    refine ⟨by simp, ?_⟩
    rw [List.cons_append] at hb hn ⊢
    rw [Lex.skipN]
    have hc : Lex.blankB c = false := by
      cases g : Lex.blankB c with
      | false => rfl
      | true =>
        have : c = 32 ∨ c = 9 ∨ c = 10 := by unfold Lex.blankB at g; simpa [or_assoc] using g
        have hs : Lex.symN (c :: (q ++ r)) = 0 := by
          cases hqr : q ++ r with
          | nil => rcases this with rfl | rfl | rfl <;> rfl
          | cons d x =>
            show (if Lex.symB [c, d] then 2 else if Lex.symB [c] then 1 else 0) = 0
            rcases this with rfl | rfl | rfl <;> simp [Lex.symB, Lex.twos, Lex.signs]
        rw [Lex.rdT] at hn
        rcases this with rfl | rfl | rfl
        all_goals
          rw [if_neg (by decide), if_neg (by decide), if_neg (by decide), if_neg (by decide), if_pos hs] at hn
          cases hn
    rw [hc, if_neg (by decide)]
    by_cases hs : (c == 47 && (q ++ r).head? == some 47) = true
    · exfalso
      rw [Bool.and_eq_true, beq_iff_eq, beq_iff_eq] at hs
      obtain ⟨rfl, h47⟩ := hs
      have hlen : (Lex.rdT (47 :: (q ++ r))).n = 1 := by
        cases hqr : q ++ r with
        | nil => rfl
        | cons d x =>
          rw [hqr] at h47
          have : d = 47 := by simpa using h47
          subst this
          rfl
      rw [hb] at hlen
      dsimp only at hlen
      have hq : q = [] := by simpa using hlen
      subst hq
      exact (hr 47 h47).2 rfl
    · rw [if_neg hs]
/-- The tokens of fitting pieces. -/
theorem pieces_lex : ∀ (l : List It) (m p : Nat), FitJ l [] → ((Lex.pk m p (txt l)).e = 0 ∧ (Lex.pk m p (txt l)).l.map Lex.core = cks l) ∨ (Lex.pk m p (txt l)).e = 3
  | [], m, p, _ => Or.inl (by
    have : Lex.pk m p (txt []) = ⟨[], 0, 0⟩ := by
      show Lex.toks m (p + Lex.skipN false []) (([] : Txt).drop _) = _
      rw [List.drop_nil, Lex.toks_nil]
    rw [this]
    exact ⟨rfl, rfl⟩)
  | .gap b :: l, m, p, h => by
    rw [FitJ] at h
    have e : Lex.pk m p (txt (.gap b :: l)) = Lex.pk m (p + 1) (txt l) := by
      show Lex.toks m (p + Lex.skipN false (b :: txt l)) ((b :: txt l).drop (Lex.skipN false (b :: txt l))) = _
      rw [Lex.skipN, if_pos h.1, List.drop_succ_cons]
      show _ = Lex.toks m (p + 1 + Lex.skipN false (txt l)) ((txt l).drop (Lex.skipN false (txt l)))
      rw [show p + (Lex.skipN false (txt l) + 1) = p + 1 + Lex.skipN false (txt l) by omega]
    rw [e]
    exact pieces_lex l m (p + 1) h.2
  | .tok c :: l, m, p, h => by
    rw [FitJ, List.append_nil] at h
    obtain ⟨⟨h1, h2⟩, h3⟩ := h
    obtain ⟨g1, g2⟩ := wrt_skip (tk c) (txt l) h1 h2
    have hb := Lex.read_wrt (tk c) (txt l) h1 (fun b hb => (h2 b hb).1)
    have e0 : Lex.pk m p (txt (.tok c :: l)) = Lex.toks m p (Lex.wrt (tk c) ++ txt l) := by
      show Lex.toks m (p + Lex.skipN false (Lex.wrt (tk c) ++ txt l)) ((Lex.wrt (tk c) ++ txt l).drop (Lex.skipN false (Lex.wrt (tk c) ++ txt l))) = _
      rw [g2, List.drop_zero, Nat.add_zero]
    rw [e0]
    by_cases hm : m = 1000
    · subst hm
      right
      rw [Lex.toks_full p g1]
    · have hn : (Lex.rdT (Lex.wrt (tk c) ++ txt l)).e = 0 := by rw [hb]
      rw [Lex.toks_pk g1 hm hn, hb]
      dsimp only
      rw [List.drop_left]
      rcases pieces_lex l (m + 1) (p + (Lex.wrt (tk c)).length) h3 with ⟨q1, q2⟩ | q
      · left
        obtain ⟨a1, a2⟩ := Lex.addT_ok [⟨(tk c).k, (tk c).s, (tk c).i, (p : Int)⟩] q1
        refine ⟨a1, ?_⟩
        rw [a2, List.map_append, q2]
        rfl
      · right
        unfold Lex.addT
        rw [if_neg (by rw [q]; decide)]
        exact q
theorem text_lex (l : List It) (h : FitJ l []) : ((Lex.tokens (txt l)).e = 0 ∧ (Lex.tokens (txt l)).l.map Lex.core = cks l) ∨ (Lex.tokens (txt l)).e = 3 := by
  unfold Lex.tokens
  by_cases h4 : 4000 < (txt l).length
  · right; rw [if_pos h4]
  · rw [if_neg h4]
    have := pieces_lex l 0 0 h
    unfold Lex.pk at this
    rw [Nat.zero_add] at this
    exact this
/-- What may follow a name or an expression. -/
def After (y : Txt) : Prop := ∀ b, y.head? = some b → Lex.tailB b = false ∧ b ≠ 61 ∧ b ≠ 47
/-- What may follow a symbol. -/
def NE (y : Txt) : Prop := ∀ b, y.head? = some b → b ≠ 61 ∧ b ≠ 47
theorem After.ne {y : Txt} (h : After y) : NE y := fun b hb => (h b hb).2
theorem After.cons {b : UInt8} (y : Txt) (h : Lex.tailB b = false ∧ b ≠ 61 ∧ b ≠ 47) : After (b :: y) := fun c hc => by
  obtain rfl : b = c := by simpa using hc
  exact h
theorem NE.cons {b : UInt8} (y : Txt) (h : b ≠ 61 ∧ b ≠ 47) : NE (b :: y) := fun c hc => by
  obtain rfl : b = c := by simpa using hc
  exact h
theorem NE.nil : NE [] := fun b h => by cases h
theorem sym_fit {s : Txt} {i a : Int} (h : Lex.okT ⟨5, s, i, a⟩ = true) {b : UInt8} (hb : b ≠ 61) : Lex.fitB ⟨5, s, i, a⟩ b = true := by
  have hs : Lex.symB s = true := by
    unfold Lex.okT at h
    simp at h
    exact h.2
  show (!Lex.symB (s ++ [b])) = true
  rcases Lex.sym_parts hs with ⟨c, rfl, _⟩ | ⟨c, d, rfl, _⟩
  · show (!Lex.twos.contains [c, b]) = true
    simp [Lex.twos, hb]
  · rfl
theorem after_fit (t : Lex.Tk) (h : Lex.okT t = true) {b : UInt8} (h1 : Lex.tailB b = false) (h2 : b ≠ 61) : Lex.fitB t b = true := by
  obtain ⟨k, s, i, a⟩ := t
  by_cases h5 : k = 5
  · subst h5
    exact sym_fit h h2
  unfold Lex.fitB
  have hd : Lex.digB b = false := by
    unfold Lex.tailB at h1
    exact (Bool.or_eq_false_iff.1 h1).2
  dsimp only
  rw [if_neg h5]
  split
  · rw [h1]; rfl
  split
  · rw [hd]; rfl
  · rfl
theorem fit_t {c : Ck} {l : List It} {r : Txt} (h : Lex.okT (tk c) = true) (ha : After (txt l ++ r)) (hl : FitJ l r) : FitJ (.tok c :: l) r := ⟨⟨h, fun b hb => ⟨after_fit _ h (ha b hb).1 (ha b hb).2.1, (ha b hb).2.2⟩⟩, hl⟩
theorem fit_s {s : Txt} {l : List It} {r : Txt} (h : Lex.okT (tk (5, s, 0)) = true) (ha : NE (txt l ++ r)) (hl : FitJ l r) : FitJ (sI s :: l) r := ⟨⟨h, fun b hb => ⟨sym_fit h (ha b hb).1, (ha b hb).2⟩⟩, hl⟩
/-- A string may be followed by anything but a slash. -/
theorem fit_str {s : Txt} {l : List It} {r : Txt} (h : strB s = true) (ha : NE (txt l ++ r)) (hl : FitJ l r) : FitJ (.tok (4, s, 0) :: l) r := ⟨⟨h, fun b hb => ⟨rfl, (ha b hb).2⟩⟩, hl⟩
theorem fit_g {b : UInt8} {l : List It} {r : Txt} (h : Lex.blankB b = true) (hl : FitJ l r) : FitJ (.gap b :: l) r := ⟨h, hl⟩
theorem txt_s (s : Txt) (l : List It) : txt (sI s :: l) = s ++ txt l := rfl
theorem txt_w (s : Txt) (l : List It) : txt (wI s :: l) = s ++ txt l := rfl
theorem txt_n (s : Txt) (l : List It) : txt (nI s :: l) = s ++ txt l := rfl
theorem txt_sp (l : List It) : txt (sp :: l) = 32 :: txt l := rfl
theorem txt_gap (b : UInt8) (l : List It) : txt (.gap b :: l) = b :: txt l := rfl
theorem txt_tok (c : Ck) (l : List It) : txt (.tok c :: l) = Lex.wrt (tk c) ++ txt l := rfl
theorem txt_nil : txt [] = [] := rfl
theorem opI_eq (s : Txt) : opI s = .tok (opC s) := by unfold opI opC; split <;> rfl
theorem op_text (s : Txt) (l : List It) : txt (opI s :: l) = s ++ txt l := by unfold opI; split <;> rfl
theorem op_ok {s : Txt} (h : binL s ≠ 0) : Lex.okT (tk (opC s)) = true := by
  have hm := bin_ops h
  unfold allOps at hm
  simp only [List.mem_cons, List.not_mem_nil, or_false] at hm
  rcases hm with rfl | rfl | rfl | rfl | rfl | rfl | rfl | rfl | rfl | rfl | rfl | rfl | rfl <;> decide
theorem wrt_ne {t : Lex.Tk} (h : Lex.okT t = true) (h5 : t.k ≠ 5) : ∃ b q, Lex.wrt t = b :: q ∧ b ≠ 61 ∧ b ≠ 47 := by
  have hb := Lex.read_wrt t [] h (fun c hc => by cases hc)
  rw [List.append_nil] at hb
  cases hw : Lex.wrt t with
  | nil => rw [hw, Lex.rdT] at hb; exact absurd (show (1 : Int) = 0 from congrArg Lex.Rd.e hb) (by decide)
  | cons b q =>
    rw [hw] at hb
    refine ⟨b, q, rfl, fun e => ?_, fun e => ?_⟩
    all_goals
      subst e
      rw [Lex.rdT, if_neg (by decide), if_neg (by decide), if_neg (by decide), if_neg (by decide)] at hb
      split at hb
      · exact absurd (show (1 : Int) = 0 from congrArg Lex.Rd.e hb) (by decide)
      · simp only [Lex.Rd.mk.injEq] at hb
        exact h5 hb.1.symm
theorem ne_tok {c : Ck} (h : Lex.okT (tk c) = true) (h5 : c.1 ≠ 5) (L : List It) (y : Txt) : NE (txt (.tok c :: L) ++ y) := by
  obtain ⟨b, q, h1, h2⟩ := wrt_ne h h5
  rw [txt_tok, h1, List.cons_append, List.cons_append]
  exact NE.cons _ h2
theorem ne_app {L : List It} (h : ∀ y, NE (txt L ++ y)) (M : List It) (y : Txt) : NE (txt (L ++ M) ++ y) := by rw [txt_app, List.append_assoc]; exact h _
theorem ne_opd {t : T} (h : ∀ y, NE (txt (itE t) ++ y)) (l : Nat) (y : Txt) : NE (txt (opd l t) ++ y) := by
  by_cases hl : lvT t < l
  · rw [opd_low hl]
    exact NE.cons _ (by decide)
  · rw [opd_high hl]
    exact h y
theorem ne_E : ∀ {t : T}, GE t → ∀ y, NE (txt (itE t) ++ y)
  | _, .null, y => by rw [itE_null]; exact NE.cons _ (by decide)
  | _, .bool i h, y => by rw [itE_bool]; rcases h with rfl | rfl <;> exact NE.cons _ (by decide)
  | _, .int i h, y => by rw [itE_int]; exact ne_tok (c := (3, [], i)) h (by show (3 : Int) ≠ 5; decide) _ y
  | _, .str s h, y => by rw [itE_str]; exact ne_tok (c := (4, s, 0)) h (by show (4 : Int) ≠ 5; decide) _ y
  | _, .var s h, y => by rw [itE_var]; exact ne_tok (c := (1, s, 0)) h (by show (1 : Int) ≠ 5; decide) _ y
  | _, .list ts h, y => by rw [itE_list]; exact NE.cons _ (by decide)
  | _, .map keys ts hl ha h, y => by rw [itE_map]; exact NE.cons _ (by decide)
  | _, .una s a hs h, y => by
    rcases hs with rfl | rfl
    · rw [itE_neg]; exact NE.cons _ (by decide)
    · rw [itE_not]; exact NE.cons _ (by decide)
  | _, .bin s a b hs h1 h2, y => by rw [itE_bin]; exact ne_app (ne_opd (ne_E h1) _) _ y
  | _, .idx a b h1 h2, y => by rw [itE_idx, List.append_assoc]; exact ne_app (ne_opd (ne_E h1) _) _ y
  | _, .call s ts hs h, y => by rw [itE_call, List.cons_append]; exact ne_tok (c := (1, s, 0)) hs (by show (1 : Int) ≠ 5; decide) _ y
  | _, .host s ts hs h, y => by rw [itE_host, List.cons_append]; exact ne_tok (c := (6, s, 0)) hs (by show (6 : Int) ≠ 5; decide) _ y
theorem ne_row {ts : Ts} (h : GEs ts) {y : Txt} (hy : NE y) : NE (txt (sep (row ts)) ++ y) := by
  cases h with
  | nil => rw [row_nil]; exact hy
  | cons t r h hr =>
    rw [row_cons]
    cases hr with
    | nil => rw [row_nil, sep_one]; exact ne_opd (ne_E h) 1 y
    | cons u q hu hq => rw [row_cons, sep_cons]; exact ne_app (ne_opd (ne_E h) 1) _ y
theorem fit_opd {t : T} (h : GE t) (hf : ∀ y, After y → FitJ (itE t) y) (l : Nat) (y : Txt) (hy : After y) : FitJ (opd l t) y := by
  by_cases hl : lvT t < l
  · rw [opd_low hl, List.cons_append]
    refine fit_s (by decide) ?_ ?_
    · rw [txt_app, List.append_assoc]
      exact ne_E h _
    · rw [fitJ_app]
      refine ⟨hf _ (After.cons _ (by decide)), fit_s (by decide) hy.ne trivial⟩
  · rw [opd_high hl]
    exact hf y hy
def AllF : Ts → Prop
  | .nil => True
  | .cons t r => (GE t ∧ ∀ y, After y → FitJ (itE t) y) ∧ AllF r
theorem fit_row : ∀ {ts : Ts}, AllF ts → ∀ y, After y → FitJ (sep (row ts)) y
  | .nil, _, y, hy => by rw [row_nil]; trivial
  | .cons t .nil, h, y, hy => by
    rw [AllF] at h
    rw [row_cons, row_nil, sep_one]
    exact fit_opd h.1.1 h.1.2 1 y hy
  | .cons t (.cons u r), h, y, hy => by
    rw [AllF] at h
    rw [row_cons, row_cons, sep_cons, ← row_cons, fitJ_app]
    refine ⟨fit_opd h.1.1 h.1.2 1 _ (After.cons _ (by decide)), fit_s (by decide) (NE.cons _ (by decide)) (fit_g (by decide) (fit_row h.2 y hy))⟩
theorem asc_str {p : Option Txt} {k : Txt} {r : List Txt} (h : ascB p (k :: r) = true) : strB k = true ∧ ascB (some k) r = true := by
  rw [asc_cons, Bool.and_eq_true, Bool.and_eq_true] at h
  exact ⟨h.1, h.2.2⟩
theorem fit_keyed : ∀ {ts : Ts}, AllF ts → ∀ (keys : List Txt) (p : Option Txt), ascB p keys = true → ∀ y, After y → FitJ (sep (keyed keys (row ts))) y
  | .nil, _, keys, p, _, y, hy => by rw [row_nil]; cases keys <;> trivial
  | .cons t r, _, [], p, _, y, hy => by rw [row_cons]; trivial
  | .cons t .nil, h, k :: keys, p, ha, y, hy => by
    rw [AllF] at h
    rw [keyed_cons, row_nil, show keyed keys [] = [] by cases keys <;> rfl, sep_one]
    exact fit_str (asc_str ha).1 (NE.cons _ (by decide)) (fit_s (by decide) (NE.cons _ (by decide)) (fit_g (by decide) (fit_opd h.1.1 h.1.2 1 y hy)))
  | .cons t (.cons u r), h, [k], p, ha, y, hy => by
    rw [AllF] at h
    rw [keyed_cons, show keyed [] (row (.cons u r)) = [] by rw [row_cons]; rfl, sep_one]
    exact fit_str (asc_str ha).1 (NE.cons _ (by decide)) (fit_s (by decide) (NE.cons _ (by decide)) (fit_g (by decide) (fit_opd h.1.1 h.1.2 1 y hy)))
  | .cons t (.cons u r), h, k :: k2 :: keys, p, ha, y, hy => by
    rw [AllF] at h
    rw [keyed_cons, keyed_cons, sep_cons, ← keyed_cons]
    simp only [List.cons_append]
    refine fit_str (asc_str ha).1 (NE.cons _ (by decide)) (fit_s (by decide) (NE.cons _ (by decide)) (fit_g (by decide) ?_))
    rw [fitJ_app]
    exact ⟨fit_opd h.1.1 h.1.2 1 _ (After.cons _ (by decide)), fit_s (by decide) (NE.cons _ (by decide)) (fit_g (by decide) (fit_keyed h.2 (k2 :: keys) (some k) (asc_str ha).2 y hy))⟩
mutual
theorem fit_E : ∀ {t : T}, GE t → ∀ y, After y → FitJ (itE t) y
  | _, .null, y, hy => by rw [itE_null]; exact fit_t (by decide) hy trivial
  | _, .bool i h, y, hy => by rw [itE_bool]; rcases h with rfl | rfl <;> exact fit_t (by decide) hy trivial
  | _, .int i h, y, hy => by rw [itE_int]; exact fit_t h hy trivial
  | _, .str s h, y, hy => by rw [itE_str]; exact fit_t h hy trivial
  | _, .var s h, y, hy => by rw [itE_var]; exact fit_t h hy trivial
  | _, .list ts h, y, hy => by
    rw [itE_list, List.cons_append]
    refine fit_s (by decide) ?_ ?_
    · rw [txt_app, List.append_assoc]; exact ne_row h (NE.cons _ (by decide))
    · rw [fitJ_app]; exact ⟨fit_row (fit_Es h) _ (After.cons _ (by decide)), fit_s (by decide) hy.ne trivial⟩
  | _, .map keys ts hl ha h, y, hy => by
    rw [itE_map, List.cons_append]
    refine fit_s (by decide) ?_ ?_
    · rw [txt_app, List.append_assoc]
      cases ts with
      | nil =>
        rw [row_nil, show keyed keys [] = [] by cases keys <;> rfl]
        exact NE.cons _ (by decide)
      | cons t r =>
        cases keys with
        | nil => cases hl
        | cons k keys =>
          rw [keyed_cons]
          cases hq : keyed keys (row r) with
          | nil => rw [sep_one]; exact ne_tok (c := (4, k, 0)) (asc_str ha).1 (by show (4 : Int) ≠ 5; decide) _ _
          | cons a q => rw [sep_cons]; exact ne_tok (c := (4, k, 0)) (asc_str ha).1 (by show (4 : Int) ≠ 5; decide) _ _
    · rw [fitJ_app]; exact ⟨fit_keyed (fit_Es h) keys none ha _ (After.cons _ (by decide)), fit_s (by decide) hy.ne trivial⟩
  | _, .una s a hs h, y, hy => by
    rcases hs with rfl | rfl
    · rw [itE_neg]; exact fit_s (by decide) (ne_opd (ne_E h) 7 y) (fit_opd h (fit_E h) 7 y hy)
    · rw [itE_not]; exact fit_t (by decide) (After.cons _ (by decide)) (fit_g (by decide) (fit_opd h (fit_E h) 3 y hy))
  | _, .bin s a b hs h1 h2, y, hy => by
    rw [itE_bin, fitJ_app]
    refine ⟨fit_opd h1 (fit_E h1) _ _ (After.cons _ (by decide)), fit_g (by decide) ?_⟩
    rw [opI_eq]
    exact fit_t (op_ok hs) (After.cons _ (by decide)) (fit_g (by decide) (fit_opd h2 (fit_E h2) _ y hy))
  | _, .idx a b h1 h2, y, hy => by
    rw [itE_idx, List.append_assoc, fitJ_app]
    refine ⟨fit_opd h1 (fit_E h1) 8 _ (After.cons _ (by decide)), ?_⟩
    rw [List.cons_append]
    refine fit_s (by decide) ?_ ?_
    · rw [txt_app, List.append_assoc]; exact ne_opd (ne_E h2) 1 _
    · rw [fitJ_app]; exact ⟨fit_opd h2 (fit_E h2) 1 _ (After.cons _ (by decide)), fit_s (by decide) hy.ne trivial⟩
  | _, .call s ts hs h, y, hy => by
    rw [itE_call]
    simp only [List.cons_append]
    refine fit_t hs (After.cons _ (by decide)) (fit_s (by decide) ?_ ?_)
    · rw [txt_app, List.append_assoc]; exact ne_row h (NE.cons _ (by decide))
    · rw [fitJ_app]; exact ⟨fit_row (fit_Es h) _ (After.cons _ (by decide)), fit_s (by decide) hy.ne trivial⟩
  | _, .host s ts hs h, y, hy => by
    rw [itE_host]
    simp only [List.cons_append]
    refine fit_t hs (After.cons _ (by decide)) (fit_s (by decide) ?_ ?_)
    · rw [txt_app, List.append_assoc]; exact ne_row h (NE.cons _ (by decide))
    · rw [fitJ_app]; exact ⟨fit_row (fit_Es h) _ (After.cons _ (by decide)), fit_s (by decide) hy.ne trivial⟩
theorem fit_Es : ∀ {ts : Ts}, GEs ts → AllF ts
  | _, .nil => by rw [AllF]; trivial
  | _, .cons t r h hr => by rw [AllF]; exact ⟨⟨h, fit_E h⟩, fit_Es hr⟩
end
theorem fit_oE {t : T} (h : GE t) (l : Nat) (y : Txt) (hy : After y) : FitJ (opd l t) y := fit_opd h (fit_E h) l y hy
theorem fit_tabs (d : Nat) (y : Txt) : FitJ (tabs d) y := by
  induction d with
  | zero => trivial
  | succ d ih => exact fit_g (b := 9) (by decide) ih
theorem fit_end {e : T} (h : GE e) (y : Txt) (hy : NE y) : FitJ (opd 1 e ++ [sI [59]]) y := by
  rw [fitJ_app]
  exact ⟨fit_oE h 1 _ (After.cons _ (by decide)), fit_s (by decide) hy trivial⟩
mutual
theorem fit_S : ∀ {t : T}, GdS t → ∀ (d : Nat) (y : Txt), NE y → FitJ (itS d t) y
  | _, .lt s e hs h, d, y, hy => by
    rw [itS_let]
    simp only [List.cons_append]
    exact fit_t (by decide) (After.cons _ (by decide)) (fit_g (by decide) (fit_t hs (After.cons _ (by decide)) (fit_g (by decide) (fit_s (by decide) (NE.cons _ (by decide)) (fit_g (by decide) (fit_end h y hy))))))
  | _, .set s e hs h, d, y, hy => by
    rw [itS_set]
    simp only [List.cons_append]
    exact fit_t hs (After.cons _ (by decide)) (fit_g (by decide) (fit_s (by decide) (NE.cons _ (by decide)) (fit_g (by decide) (fit_end h y hy))))
  | _, .if1 e b h hb, d, y, hy => by
    rw [itS_if1]
    simp only [List.cons_append]
    refine fit_t (by decide) (After.cons _ (by decide)) (fit_g (by decide) ?_)
    rw [fitJ_app]
    exact ⟨fit_oE h 1 _ (After.cons _ (by decide)), fit_g (by decide) (fit_B hb d y hy)⟩
  | _, .if2 e b f h hb hf, d, y, hy => by
    rw [itS_if2]
    simp only [List.cons_append, List.append_assoc]
    refine fit_t (by decide) (After.cons _ (by decide)) (fit_g (by decide) ?_)
    rw [fitJ_app]
    refine ⟨fit_oE h 1 _ (After.cons _ (by decide)), fit_g (by decide) ?_⟩
    rw [fitJ_app]
    exact ⟨fit_B hb d _ (NE.cons _ (by decide)), fit_g (by decide) (fit_t (by decide) (After.cons _ (by decide)) (fit_g (by decide) (fit_B hf d y hy)))⟩
  | _, .wh e b h hb, d, y, hy => by
    rw [itS_wh]
    simp only [List.cons_append]
    refine fit_t (by decide) (After.cons _ (by decide)) (fit_g (by decide) ?_)
    rw [fitJ_app]
    exact ⟨fit_oE h 1 _ (After.cons _ (by decide)), fit_g (by decide) (fit_B hb d y hy)⟩
  | _, .ret e h, d, y, hy => by
    rw [itS_ret]
    simp only [List.cons_append]
    exact fit_t (by decide) (After.cons _ (by decide)) (fit_g (by decide) (fit_end h y hy))
  | _, .drop e h, d, y, hy => by
    rw [itS_do]
    exact fit_end h y hy
theorem fit_B : ∀ {t : T}, GdB t → ∀ (d : Nat) (y : Txt), NE y → FitJ (itB d t) y
  | _, .blk ts h, d, y, hy => by
    rw [itB_eq, List.append_assoc]
    simp only [List.cons_append]
    refine fit_s (by decide) (NE.cons _ (by decide)) (fit_g (by decide) ?_)
    rw [fitJ_app]
    refine ⟨fit_L h (d + 1) _, ?_⟩
    rw [fitJ_app]
    exact ⟨fit_tabs d _, fit_s (by decide) hy trivial⟩
theorem fit_L : ∀ {ts : Ts}, GdSs ts → ∀ (d : Nat) (y : Txt), FitJ (lines d ts) y
  | _, .nil, d, y => by rw [lines_nil]; trivial
  | _, .cons t r h hr, d, y => by
    rw [lines_cons, List.append_assoc, fitJ_app]
    refine ⟨fit_tabs d _, ?_⟩
    rw [fitJ_app]
    exact ⟨fit_S h d _ (NE.cons _ (by decide)), fit_g (by decide) (fit_L hr d y)⟩
end
theorem fit_names : ∀ (ps : List Txt), (∀ p ∈ ps, nameB p = true) → ∀ y, After y → FitJ (sep (ps.map fun s => [nI s])) y
  | [], _, y, hy => trivial
  | [p], h, y, hy => fit_t (h p (List.mem_cons_self ..)) hy trivial
  | p :: q :: r, h, y, hy => by
    rw [names_cons, names_cons, sep_cons, ← names_cons]
    exact fit_t (h p (List.mem_cons_self ..)) (After.cons _ (by decide)) (fit_s (by decide) (NE.cons _ (by decide)) (fit_g (by decide) (fit_names (q :: r) (fun x hx => h x (List.mem_cons_of_mem _ hx)) y hy)))
theorem ne_names (ps : List Txt) (h : ∀ p ∈ ps, nameB p = true) {y : Txt} (hy : NE y) : NE (txt (sep (ps.map fun s => [nI s])) ++ y) := by
  match ps, h with
  | [], _ => exact hy
  | [p], h => exact ne_tok (c := (1, p, 0)) (h p (List.mem_cons_self ..)) (by show (1 : Int) ≠ 5; decide) _ y
  | p :: q :: r, h => rw [names_cons, names_cons, sep_cons]; exact ne_tok (c := (1, p, 0)) (h p (List.mem_cons_self ..)) (by show (1 : Int) ≠ 5; decide) _ y
theorem fit_F {f : Fu} (h : goodFu f) (y : Txt) : FitJ (itF f) y := by
  have hb := good_body h
  obtain ⟨-, -, hn, hp⟩ := h
  unfold itF
  simp only [List.cons_append, List.append_assoc]
  refine fit_t (by decide) (After.cons _ (by decide)) (fit_g (by decide) (fit_t hn (After.cons _ (by decide)) (fit_s (by decide) ?_ ?_)))
  · rw [txt_app, List.append_assoc]
    exact ne_names _ hp (NE.cons _ (by decide))
  · rw [fitJ_app]
    refine ⟨fit_names _ hp _ (After.cons _ (by decide)), fit_s (by decide) (NE.cons _ (by decide)) (fit_g (by decide) ?_)⟩
    rw [fitJ_app]
    exact ⟨fit_B hb 0 _ (NE.cons _ (by decide)), fit_g (by decide) trivial⟩
theorem fit_W : ∀ (fs : List Fu), (∀ f ∈ fs, goodFu f) → ∀ y, FitJ (itW fs) y
  | [], _, y => trivial
  | f :: fs, h, y => by
    show FitJ (itF f ++ itW fs) y
    rw [fitJ_app]
    exact ⟨fit_F (h f (List.mem_cons_self ..)) _, fit_W fs (fun g hg => h g (List.mem_cons_of_mem _ hg)) y⟩
/-- A program's text: its tokens, or a limit. -/
theorem prog_lex (fs : List Fu) (h : ∀ f ∈ fs, goodFu f) : ((Lex.tokens (txt (itW fs))).e = 0 ∧ (Lex.tokens (txt (itW fs))).l.map Lex.core = cks (itW fs)) ∨ (Lex.tokens (txt (itW fs))).e = 3 := text_lex _ (fit_W fs h [])
end Syn
end Go.Proofs.YtinadbomebgfaaaGreatDoor

/-
  Layer 8, plainly: how long the texts of expressions, statements and programs can be.
-/
namespace Go.Proofs.YtinadbomebgfaaaGreatDoor
namespace Syn
theorem tok_len {c : Ck} (h : Lex.okT (tk c) = true) : (Lex.wrt (tk c)).length ≤ 402 := (Lex.ok_len h).2
theorem name_len {s : Txt} (h : nameB s = true) : s.length ≤ 402 := tok_len (c := (1, s, 0)) h
theorem op_len {s : Txt} (h : binL s ≠ 0) : s.length ≤ 3 := by
  have hm := bin_ops h
  unfold allOps at hm
  simp only [List.mem_cons, List.not_mem_nil, or_false] at hm
  rcases hm with rfl | rfl | rfl | rfl | rfl | rfl | rfl | rfl | rfl | rfl | rfl | rfl | rfl <;> decide
theorem opd_len {t : T} (h : (txt (itE t)).length + 410 ≤ 1000 * size t) (l : Nat) : (txt (opd l t)).length + 408 ≤ 1000 * size t := by
  by_cases hl : lvT t < l
  · rw [opd_low hl, txt_app, List.length_append]
    have : (txt (sI [40] :: itE t)).length = (txt (itE t)).length + 1 := rfl
    have : (txt [sI [41]]).length = 1 := rfl
    omega
  · rw [opd_high hl]; omega
def AllL : Ts → Prop
  | .nil => True
  | .cons t r => (txt (itE t)).length + 410 ≤ 1000 * size t ∧ AllL r
theorem row_len : ∀ {ts : Ts}, AllL ts → (txt (sep (row ts))).length ≤ 1000 * sizes ts
  | .nil, _ => by rw [row_nil]; exact Nat.zero_le _
  | .cons t .nil, h => by
    rw [AllL] at h
    rw [row_cons, row_nil, sep_one, sizes, sizes]
    have := opd_len h.1 1
    omega
  | .cons t (.cons u r), h => by
    rw [AllL] at h
    have ih := row_len h.2
    have := opd_len h.1 1
    rw [row_cons, row_cons, sep_cons, ← row_cons, txt_app, List.length_append, sizes]
    have : (txt (sI [44] :: sp :: sep (row (.cons u r)))).length = (txt (sep (row (.cons u r)))).length + 1 + 1 := rfl
    omega
theorem keyed_len : ∀ {ts : Ts}, AllL ts → ∀ (keys : List Txt) (p : Option Txt), ascB p keys = true → (txt (sep (keyed keys (row ts)))).length ≤ 1000 * sizes ts
  | .nil, _, keys, p, _ => by rw [row_nil]; cases keys <;> exact Nat.zero_le _
  | .cons t r, _, [], p, _ => by rw [row_cons]; exact Nat.zero_le _
  | .cons t .nil, h, k :: keys, p, ha => by
    rw [AllL] at h
    rw [keyed_cons, row_nil, show keyed keys [] = [] by cases keys <;> rfl, sep_one, sizes, sizes]
    have := opd_len h.1 1
    have h2 := tok_len (c := (4, k, 0)) (asc_str ha).1
    have e : (txt (.tok (4, k, 0) :: sI [58] :: sp :: opd 1 t)).length = (Lex.wrt (tk (4, k, 0))).length + ((txt (opd 1 t)).length + 1 + 1) := by rw [txt_tok, List.length_append]; rfl
    omega
  | .cons t (.cons u r), h, [k], p, ha => by
    rw [AllL] at h
    rw [keyed_cons, show keyed [] (row (.cons u r)) = [] by rw [row_cons]; rfl, sep_one, sizes]
    have := opd_len h.1 1
    have h2 := tok_len (c := (4, k, 0)) (asc_str ha).1
    have e : (txt (.tok (4, k, 0) :: sI [58] :: sp :: opd 1 t)).length = (Lex.wrt (tk (4, k, 0))).length + ((txt (opd 1 t)).length + 1 + 1) := by rw [txt_tok, List.length_append]; rfl
    omega
  | .cons t (.cons u r), h, k :: k2 :: keys, p, ha => by
    rw [AllL] at h
    have ih := keyed_len h.2 (k2 :: keys) (some k) (asc_str ha).2
    rw [keyed_cons, keyed_cons, sep_cons, ← keyed_cons, sizes]
    have := opd_len h.1 1
    have h2 := tok_len (c := (4, k, 0)) (asc_str ha).1
    rw [txt_app, List.length_append]
    have e : (txt (.tok (4, k, 0) :: sI [58] :: sp :: opd 1 t)).length = (Lex.wrt (tk (4, k, 0))).length + ((txt (opd 1 t)).length + 1 + 1) := by rw [txt_tok, List.length_append]; rfl
    have e2 : (txt (sI [44] :: sp :: sep (keyed (k2 :: keys) (row (.cons u r))))).length = (txt (sep (keyed (k2 :: keys) (row (.cons u r))))).length + 1 + 1 := rfl
    omega
mutual
theorem len_E : ∀ {t : T}, GE t → (txt (itE t)).length + 410 ≤ 1000 * size t
  | _, .null => by rw [itE_null, leaf, size, sizes]; exact (by decide : 4 + 410 ≤ 1000 * (0 + 1))
  | _, .bool i h => by
    rw [itE_bool, leaf, size, sizes]
    rcases h with rfl | rfl
    · exact (by decide : 5 + 410 ≤ 1000 * (0 + 1))
    · exact (by decide : 4 + 410 ≤ 1000 * (0 + 1))
  | _, .int i h => by
    rw [itE_int, leaf, size, sizes, txt_tok, List.length_append]
    have := tok_len (c := (3, [], i)) h
    have : (txt []).length = 0 := rfl
    omega
  | _, .str s h => by
    rw [itE_str, leaf, size, sizes, txt_tok, List.length_append]
    have := tok_len (c := (4, s, 0)) h
    have : (txt []).length = 0 := rfl
    omega
  | _, .var s h => by
    rw [itE_var, leaf, size, sizes, txt_n, List.length_append]
    have := name_len h
    have : (txt []).length = 0 := rfl
    omega
  | _, .list ts h => by
    rw [itE_list, size, txt_app, List.length_append]
    have := row_len (len_Es h)
    have : (txt (sI [91] :: sep (row ts))).length = (txt (sep (row ts))).length + 1 := rfl
    have : (txt [sI [93]]).length = 1 := rfl
    omega
  | _, .map keys ts hl ha h => by
    rw [itE_map, size, txt_app, List.length_append]
    have := keyed_len (len_Es h) keys none ha
    have : (txt (sI [123] :: sep (keyed keys (row ts)))).length = (txt (sep (keyed keys (row ts)))).length + 1 := rfl
    have : (txt [sI [125]]).length = 1 := rfl
    omega
  | _, .una s a hs h => by
    rcases hs with rfl | rfl
    · rw [itE_neg, una, size, sizes, sizes]
      have := opd_len (len_E h) 7
      have : (txt (sI [45] :: opd 7 a)).length = (txt (opd 7 a)).length + 1 := rfl
      omega
    · rw [itE_not, una, size, sizes, sizes]
      have := opd_len (len_E h) 3
      have : (txt (wI [110, 111, 116] :: sp :: opd 3 a)).length = (txt (opd 3 a)).length + 1 + 1 + 1 + 1 := rfl
      omega
  | _, .bin s a b hs h1 h2 => by
    rw [itE_bin, bin, size, sizes, sizes, sizes, txt_app, List.length_append, txt_sp, op_text, List.length_cons, List.length_append, txt_sp, List.length_cons]
    have := opd_len (len_E h1) (leftL (binL s))
    have := opd_len (len_E h2) (binL s + 1)
    have := op_len hs
    omega
  | _, .idx a b h1 h2 => by
    rw [itE_idx, idx, size, sizes, sizes, sizes, txt_app, List.length_append, txt_app, List.length_append]
    have := opd_len (len_E h1) 8
    have := opd_len (len_E h2) 1
    have : (txt (sI [91] :: opd 1 b)).length = (txt (opd 1 b)).length + 1 := rfl
    have : (txt [sI [93]]).length = 1 := rfl
    omega
  | _, .call s ts hs h => by
    rw [itE_call, size, txt_app, List.length_append, txt_n, List.length_append]
    have := row_len (len_Es h)
    have := name_len hs
    have : (txt (sI [40] :: sep (row ts))).length = (txt (sep (row ts))).length + 1 := rfl
    have : (txt [sI [41]]).length = 1 := rfl
    omega
  | _, .host s ts hs h => by
    rw [itE_host, size, txt_app, List.length_append, txt_tok, List.length_append]
    have := row_len (len_Es h)
    have := tok_len (c := (6, s, 0)) hs
    have : (txt (sI [40] :: sep (row ts))).length = (txt (sep (row ts))).length + 1 := rfl
    have : (txt [sI [41]]).length = 1 := rfl
    omega
theorem len_Es : ∀ {ts : Ts}, GEs ts → AllL ts
  | _, .nil => by rw [AllL]; trivial
  | _, .cons t r h hr => by rw [AllL]; exact ⟨len_E h, len_Es hr⟩
end
theorem len_oE {t : T} (h : GE t) (l : Nat) : (txt (opd l t)).length + 408 ≤ 1000 * size t := opd_len (len_E h) l
theorem len_tabs (d : Nat) : (txt (tabs d)).length = d := by
  induction d with
  | zero => rfl
  | succ d ih => show (9 :: txt (tabs d)).length = _; rw [List.length_cons, ih]
theorem len_end {e : T} (h : GE e) : (txt (opd 1 e ++ [sI [59]])).length ≤ 1000 * size e := by
  rw [txt_app, List.length_append]
  have := len_oE h 1
  have : (txt [sI [59]]).length = 1 := rfl
  omega
mutual
theorem len_S : ∀ {t : T}, GdS t → ∀ d, d + size t ≤ 1000 → (txt (itS d t)).length + 1500 ≤ 5000 * size t
  | _, .lt s e hs h, d, hd => by
    rw [itS_let, size, sizes, sizes]
    simp only [List.cons_append]
    rw [txt_w, txt_sp, txt_n, txt_sp, txt_s, txt_sp]
    simp only [List.length_append, List.length_cons, List.length_nil]
    have := len_end h
    have := name_len hs
    omega
  | _, .set s e hs h, d, hd => by
    rw [itS_set, size, sizes, sizes]
    simp only [List.cons_append]
    rw [txt_n, txt_sp, txt_s, txt_sp]
    simp only [List.length_append, List.length_cons, List.length_nil]
    have := len_end h
    have := name_len hs
    omega
  | _, .if1 e b h hb, d, hd => by
    rw [size, sizes, sizes, sizes] at hd
    have h1 := len_oE h 1
    have h2 := len_B hb d (by omega)
    rw [itS_if1, size, sizes, sizes, sizes]
    simp only [List.cons_append]
    rw [txt_w, txt_sp, txt_app, txt_sp]
    simp only [List.length_append, List.length_cons, List.length_nil]
    omega
  | _, .if2 e b f h hb hf, d, hd => by
    rw [size, sizes, sizes, sizes, sizes] at hd
    have h1 := len_oE h 1
    have h2 := len_B hb d (by omega)
    have h3 := len_B hf d (by omega)
    rw [itS_if2, size, sizes, sizes, sizes, sizes]
    simp only [List.cons_append, List.append_assoc]
    rw [txt_w, txt_sp, txt_app, txt_sp, txt_app, txt_sp, txt_w, txt_sp]
    simp only [List.length_append, List.length_cons, List.length_nil]
    omega
  | _, .wh e b h hb, d, hd => by
    rw [size, sizes, sizes, sizes] at hd
    have h1 := len_oE h 1
    have h2 := len_B hb d (by omega)
    rw [itS_wh, size, sizes, sizes, sizes]
    simp only [List.cons_append]
    rw [txt_w, txt_sp, txt_app, txt_sp]
    simp only [List.length_append, List.length_cons, List.length_nil]
    omega
  | _, .ret e h, d, hd => by
    rw [itS_ret, size, sizes, sizes]
    simp only [List.cons_append]
    rw [txt_w, txt_sp]
    simp only [List.length_append, List.length_cons, List.length_nil]
    have := len_end h
    omega
  | _, .drop e h, d, hd => by
    rw [itS_do, size, sizes, sizes]
    have := len_end h
    omega
theorem len_B : ∀ {t : T}, GdB t → ∀ d, d + size t ≤ 1000 → (txt (itB d t)).length + 1500 ≤ 5000 * size t
  | _, .blk ts h, d, hd => by
    rw [size] at hd
    have := len_L h (d + 1) (by omega)
    rw [itB_eq, size]
    simp only [List.cons_append, List.append_assoc]
    rw [txt_s, txt_gap, txt_app, txt_app]
    simp only [List.length_append, List.length_cons, List.length_nil, len_tabs]
    have : (txt [sI [125]]).length = 1 := rfl
    omega
theorem len_L : ∀ {ts : Ts}, GdSs ts → ∀ d, d + sizes ts ≤ 1000 → (txt (lines d ts)).length ≤ 5000 * sizes ts
  | _, .nil, d, hd => by rw [lines_nil]; exact Nat.zero_le _
  | _, .cons t r h hr, d, hd => by
    rw [sizes] at hd
    have h1 := len_S h d (by omega)
    have h2 := len_L hr d (by omega)
    rw [lines_cons, sizes, List.append_assoc, txt_app, txt_app, txt_gap]
    simp only [List.length_append, List.length_cons, len_tabs]
    omega
end
theorem names_len : ∀ (ps : List Txt), (∀ p ∈ ps, nameB p = true) → (txt (sep (ps.map fun s => [nI s]))).length ≤ 404 * ps.length
  | [], _ => Nat.le_refl _
  | [p], h => by
    have := name_len (h p (List.mem_cons_self ..))
    show (txt [nI p]).length ≤ _
    rw [txt_n, List.length_append, txt_nil, List.length_cons, List.length_nil, List.length_nil]
    omega
  | p :: q :: r, h => by
    have h1 := name_len (h p (List.mem_cons_self ..))
    have ih := names_len (q :: r) (fun x hx => h x (List.mem_cons_of_mem _ hx))
    rw [names_cons, names_cons, sep_cons, ← names_cons, List.cons_append, List.nil_append, txt_n, txt_s, txt_sp]
    simp only [List.length_append, List.length_cons, List.length_nil] at ih ⊢
    omega
theorem len_F {f : Fu} (h : goodFu f) (hp : f.params.length ≤ 8) (hs : size f.body ≤ 1000) : (txt (itF f)).length ≤ 5000 * size f.body + 5000 := by
  have hb := len_B (good_body h) 0 (by omega)
  obtain ⟨-, -, hn, hps⟩ := h
  have h1 := name_len hn
  have h2 := names_len f.params hps
  unfold itF
  simp only [List.cons_append, List.append_assoc]
  rw [txt_w, txt_sp, txt_n, txt_s, txt_app, txt_s, txt_sp, txt_app, txt_gap, txt_nil]
  simp only [List.length_append, List.length_cons, List.length_nil]
  omega
theorem len_W : ∀ (fs : List Fu), (∀ f ∈ fs, goodFu f ∧ f.params.length ≤ 8 ∧ size f.body ≤ 1000) → (txt (itW fs)).length ≤ 5000 * sizeF fs + 5000 * fs.length
  | [], _ => Nat.zero_le _
  | f :: fs, h => by
    have h1 := h f (List.mem_cons_self ..)
    have h2 := len_F h1.1 h1.2.1 h1.2.2
    have ih := len_W fs (fun g hg => h g (List.mem_cons_of_mem _ hg))
    show (txt (itF f ++ itW fs)).length ≤ _
    rw [txt_app, List.length_append, sizeF, List.length_cons]
    omega
theorem size_mem : ∀ (fs : List Fu) (f : Fu), f ∈ fs → size f.body ≤ sizeF fs
  | g :: fs, f, h => by
    rw [sizeF]
    rcases List.mem_cons.1 h with rfl | h
    · omega
    · have := size_mem fs f h
      omega
end Syn
end Go.Proofs.YtinadbomebgfaaaGreatDoor

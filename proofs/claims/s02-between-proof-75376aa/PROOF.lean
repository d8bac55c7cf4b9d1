import PyProof.Rows.All
import KE.OsGo
import KE.OsArgs
import PySem.Challenge.RW_lastbits_s02_between
open PySem PySem.W PyProof.Rows
set_option Elab.async false
namespace My
def sg (k : Int) : Int := if k = 0 then 32768 else 2147483648
def inf (k : Int) : Int := if k = 0 then 31744 else 2139095040
def isNum (k b : Int) : Bool := if b ≥ 2 * sg k then false else decide (b % sg k < inf k)
def rank (k b : Int) : Int := if b = b % sg k then b % sg k else -(b % sg k)
def bitsAt (k r : Int) : Int := if r ≥ 0 then r else sg k - r
theorem sg_pos (k : Int) : 0 < sg k := by
  unfold sg
  split <;> decide
theorem fmt_in {k : Int} (h0 : 0 ≤ k) (h1 : k ≤ 1) : ((Lb.formatOf k.toNat).sign : Int) = sg k ∧ (Lb.formatOf k.toNat).most = inf k - 1 := by
  have h : k = 0 ∨ k = 1 := by omega
  rcases h with rfl | rfl
  · exact ⟨by decide, by decide⟩
  · exact ⟨by decide, by decide⟩
theorem num_some (f : Lb.Format) (b : Nat) : (if 2 * f.sign ≤ b then none else f.number b).isSome = (decide (b < 2 * f.sign) && decide (((b % f.sign : Nat) : Int) ≤ f.most)) := by
  by_cases h : 2 * f.sign ≤ b
  · rw [if_pos h, decide_eq_false (by omega)]
    rfl
  · rw [if_neg h, decide_eq_true (show b < 2 * f.sign by omega)]
    unfold Lb.Format.number
    by_cases g : f.most < ((b % f.sign : Nat) : Int)
    · rw [if_pos g, decide_eq_false (by omega)]
      rfl
    · rw [if_neg g, decide_eq_true (show ((b % f.sign : Nat) : Int) ≤ f.most by omega)]
      rfl
theorem num_is {k b : Int} (h0 : 0 ≤ k) (h1 : k ≤ 1) (hb : 0 ≤ b) :
    (if 2 * (Lb.formatOf k.toNat).sign ≤ b.toNat then none else (Lb.formatOf k.toNat).number b.toNat).isSome = isNum k b := by
  obtain ⟨e1, e2⟩ := fmt_in h0 h1
  rw [num_some, e2]
  have hm : ((b.toNat % (Lb.formatOf k.toNat).sign : Nat) : Int) = b % sg k := by
    rw [Int.natCast_emod, e1, Int.toNat_of_nonneg hb]
  rw [hm]
  unfold isNum
  have hp := sg_pos k
  by_cases h : b ≥ 2 * sg k
  · rw [if_pos h, decide_eq_false (by omega)]
    rfl
  · rw [if_neg h, decide_eq_true (show b.toNat < 2 * (Lb.formatOf k.toNat).sign by omega), Bool.true_and]
    exact decide_eq_decide.mpr (by omega)
theorem first_is {k : Int} (h0 : 0 ≤ k) (h1 : k ≤ 1) : ∀ (ns : List Int), (∀ x ∈ ns, 0 ≤ x) →
    ((Lb.numbers (Lb.formatOf k.toNat) (LbNeutral.nats ns)).map Option.isSome) = ns.map (isNum k)
  | [], _ => rfl
  | b :: r, h => by
    have e := first_is h0 h1 r (fun x hx => h x (List.mem_cons_of_mem _ hx))
    have e1 := num_is h0 h1 (h b (List.mem_cons_self ..))
    show _ :: _ = _ :: _
    exact List.cons_eq_cons.mpr ⟨e1, e⟩
theorem bits_is {k b d : Int} (h0 : 0 ≤ k) (h1 : k ≤ 1) (hb : 0 ≤ b) (hn : isNum k b = true) :
    (((Lb.formatOf k.toNat).bitsAt ((if (Lb.formatOf k.toNat).sign ≤ b.toNat then -((b.toNat % (Lb.formatOf k.toNat).sign : Nat) : Int) else (b.toNat : Int)) + d) : Nat) : Int) = bitsAt k (rank k b + d) := by
  obtain ⟨e1, _⟩ := fmt_in h0 h1
  have hp := sg_pos k
  have hm : ((b.toNat % (Lb.formatOf k.toNat).sign : Nat) : Int) = b % sg k := by
    rw [Int.natCast_emod, e1, Int.toNat_of_nonneg hb]
  have m0 := Int.emod_nonneg b (show sg k ≠ 0 by omega)
  have m1 := Int.emod_lt_of_pos b hp
  have er : (if (Lb.formatOf k.toNat).sign ≤ b.toNat then -((b.toNat % (Lb.formatOf k.toNat).sign : Nat) : Int) else (b.toNat : Int)) = rank k b := by
    rw [hm]
    unfold rank
    by_cases h : (Lb.formatOf k.toNat).sign ≤ b.toNat
    · rw [if_pos h, if_neg (by omega)]
    · rw [if_neg h, if_pos (Int.emod_eq_of_lt hb (by omega)).symm, Int.emod_eq_of_lt hb (by omega)]
      omega
  rw [er]
  unfold Lb.Format.bitsAt bitsAt
  by_cases h : rank k b + d < 0
  · rw [if_pos h, if_neg (by omega)]
    omega
  · rw [if_neg h, if_pos (by omega)]
    omega
def next (k b : Int) : List Int := [bitsAt k (rank k b - 1), bitsAt k (rank k b + 1)]
theorem flat_is {k : Int} (h0 : 0 ≤ k) (h1 : k ≤ 1) : ∀ (ns : List Int), (∀ x ∈ ns, 0 ≤ x) → (∀ x ∈ ns, isNum k x = true) →
    ((LbNeutral.nats ns).flatMap fun (b : Nat) => let i : Int := if (Lb.formatOf k.toNat).sign ≤ b then -((b % (Lb.formatOf k.toNat).sign : Nat) : Int) else (b : Int)
        [(Lb.formatOf k.toNat).bitsAt (i - 1), (Lb.formatOf k.toNat).bitsAt (i + 1)]).map (fun (i : Nat) => (i : Int)) = ns.flatMap (next k)
  | [], _, _ => rfl
  | b :: r, h, hn => by
    have e := flat_is h0 h1 r (fun x hx => h x (List.mem_cons_of_mem _ hx)) (fun x hx => hn x (List.mem_cons_of_mem _ hx))
    have a := bits_is (d := -1) h0 h1 (h b (List.mem_cons_self ..)) (hn b (List.mem_cons_self ..))
    have c := bits_is (d := 1) h0 h1 (h b (List.mem_cons_self ..)) (hn b (List.mem_cons_self ..))
    show _ :: _ :: _ = _ :: _ :: _
    exact List.cons_eq_cons.mpr ⟨a, List.cons_eq_cons.mpr ⟨c, e⟩⟩
theorem spec_refused {k : Int} {ns : List Int} (h : 1 < k ∨ 8 < ns.length) : PyWqambb.between k ns = [-1] := by
  have e : Lb.answer (.between k.toNat (LbNeutral.nats ns)) = .refused 1 0 := by
    show (if 1 < k.toNat ∨ 8 < (LbNeutral.nats ns).length then Lb.Answer.refused 1 0 else _) = _
    have hl : (LbNeutral.nats ns).length = ns.length := List.length_map ..
    rw [if_pos (by rw [hl]; omega)]
  show LbNeutral.shown (Lb.answer (.between k.toNat (LbNeutral.nats ns))) = _
  rw [e]
  rfl
theorem spec_place {k : Int} {ns : List Int} {i : Nat} (h0 : 0 ≤ k) (h1 : k ≤ 1) (hl : ns.length ≤ 8) (hx : ∀ x ∈ ns, 0 ≤ x) (hi : ns.findIdx? (fun b => !isNum k b) = some i) :
    PyWqambb.between k ns = [-2, (i : Int)] := by
  have f : Lb.firstNot ((Lb.numbers (Lb.formatOf k.toNat) (LbNeutral.nats ns)).map Option.isSome) = some i := by
    rw [first_is h0 h1 ns hx]
    unfold Lb.firstNot
    rw [List.findIdx?_map]
    exact hi
  have e : Lb.answer (.between k.toNat (LbNeutral.nats ns)) = .refused 2 i := by
    have hl' : (LbNeutral.nats ns).length = ns.length := List.length_map ..
    simp only [Lb.answer]
    rw [if_neg (by rw [hl']; omega), f]
  show LbNeutral.shown (Lb.answer (.between k.toNat (LbNeutral.nats ns))) = _
  rw [e]
  rfl
theorem spec_told {k : Int} {ns : List Int} (h0 : 0 ≤ k) (h1 : k ≤ 1) (hl : ns.length ≤ 8) (hx : ∀ x ∈ ns, 0 ≤ x) (hi : ∀ x ∈ ns, isNum k x = true) :
    PyWqambb.between k ns = 0 :: ns.flatMap (next k) := by
  have f : Lb.firstNot ((Lb.numbers (Lb.formatOf k.toNat) (LbNeutral.nats ns)).map Option.isSome) = none := by
    rw [first_is h0 h1 ns hx]
    unfold Lb.firstNot
    rw [List.findIdx?_map, List.findIdx?_eq_none_iff]
    intro x hm
    show (!isNum k x) = false
    rw [hi x hm]
    rfl
  have hl' : (LbNeutral.nats ns).length = ns.length := List.length_map ..
  show LbNeutral.shown (Lb.answer (.between k.toNat (LbNeutral.nats ns))) = _
  simp only [Lb.answer]
  rw [if_neg (by rw [hl']; omega), f]
  show 0 :: _ = 0 :: _
  exact congrArg (List.cons 0) (flat_is h0 h1 ns hx hi)
end My
namespace My
theorem sg_fact (k : Int) : 32768 ≤ sg k ∧ sg k ≤ 2147483648 := by
  unfold sg
  split <;> decide
theorem inf_fact (k : Int) : 31744 ≤ inf k ∧ inf k ≤ 2139095040 := by
  unfold inf
  split <;> decide
theorem fm (k b : Int) : Int.fmod b (sg k) = b % sg k := Int.fmod_eq_emod_of_nonneg b (Int.le_of_lt (sg_pos k))
theorem num_no {k b : Int} (h : 2 * sg k ≤ b) : false = isNum k b := by
  unfold isNum
  rw [if_pos h]
theorem num_so {k b : Int} (h : ¬ 2 * sg k ≤ b) : decide (Int.fmod b (sg k) < inf k) = isNum k b := by
  unfold isNum
  rw [if_neg h, fm]
theorem rank_up {k b : Int} (h : b = Int.fmod b (sg k)) : Int.fmod b (sg k) = rank k b := by
  rw [fm] at h ⊢
  unfold rank
  rw [if_pos h]
theorem rank_down {k b : Int} (h : ¬ b = Int.fmod b (sg k)) : -Int.fmod b (sg k) = rank k b := by
  rw [fm] at h ⊢
  unfold rank
  rw [if_neg h]
theorem at_up {k r : Int} (h : 0 ≤ r) : r = bitsAt k r := by
  unfold bitsAt
  rw [if_pos h]
theorem at_down {k r : Int} (h : ¬ 0 ≤ r) : sg k - r = bitsAt k r := by
  unfold bitsAt
  rw [if_neg h]
end My
namespace My
open PyProof.Rows
structure Tested (h0 : Heap) (L : Addr) (mm : Str → Option Value) (led : List (Addr × Obj)) (s1 : Shared) (want got : Bool) (s : Shared) : Prop where
  val : got = want
  fr : Fr h0 L s.heap mm
  nw : News h0 L s.heap led
  st : ∃ h' tk, s = { s1 with heap := h', toks := tk }
theorem find_at {q : Int → Bool} : ∀ {l : List Int} {i : Nat} {a : Int}, (∀ b ∈ l.take i, q b = false) → l[i]? = some a → q a = true → l.findIdx? q = some i
  | b :: r, 0, a, _, h, ha => by
    have e : b = a := Option.some.inj h
    rw [List.findIdx?_cons, e, ha]
    rfl
  | b :: r, i + 1, a, hn, h, ha => by
    have hb : q b = false := hn b (List.mem_cons_self ..)
    have e := find_at (l := r) (i := i) (fun c hc => hn c (List.mem_cons_of_mem _ hc)) h ha
    rw [List.findIdx?_cons, hb, e]
    rfl
def Cell (m : Str → Option Value) (led : List (Addr × Obj)) (xi xc : Str) (as : List Int) (q : Int → Bool) (i : Nat) (m1 : Str → Option Value) (led1 : List (Addr × Obj)) : Prop :=
  ∃ vi vl, m1 = bindM (bindM m xi vi) xc vl ∧ led1 = led ∧ ∀ b ∈ as.take i, q b = false
section
variable {prog : Program} {w : World} {A : Around} {E : Value → Shared → Prop} {s : Shared} {env : Env} {h0 : Heap} {m : Str → Option Value} {led : List (Addr × Obj)} {xi xc : Str} {Q : Flow → Shared → Prop} {xv : Value}
theorem search {as : List Int} {q : Int → Bool} {test : Expr} {suite : List Stmt} {ipos : Pos}
    (S : PairSrc prog w A E h0 env ItemKind.int as xv s m led)
    (g1 : ∀ (i : Nat) (a : Int) (t u : Tok) (h1 : Heap) (k1 : Nat) (own : List (Addr × Obj)), as[i]? = some a →
      Fr h0 env.locals h1 (bindM (bindM m xi (some (.int i t))) xc (some (.int a u))) → News h0 env.locals h1 (own ++ led) →
      wpAny (model prog w) A (isTrue test env (eval test env))
        (Tested h0 env.locals (bindM (bindM m xi (some (.int i t))) xc (some (.int a u))) (own ++ led) { s with heap := h1, toks := k1 } (q a)) E { s with heap := h1, toks := k1 })
    (g2 : ∀ (i : Nat) (a : Int) (t u : Tok) (own : List (Addr × Obj)) (h1 : Heap) (k1 : Nat), i < as.length → as.findIdx? q = some i →
      Fr h0 env.locals h1 (bindM (bindM m xi (some (.int i t))) xc (some (.int a u))) → News h0 env.locals h1 (own ++ led) →
      wpAny (model prog w) A (execs suite env) (LeaveOnly Q) E { s with heap := h1, toks := k1 })
    (g3 : ∀ h1 k1 vi vl, Fr h0 env.locals h1 (bindM (bindM m xi vi) xc vl) → News h0 env.locals h1 led → (∀ a ∈ as, q a = false) → Q .next { s with heap := h1, toks := k1 }) :
    wpAny (model prog w) A (pyIter xv) (fun it s2 => PairAt3 prog w A h0 env xi xc [.If test suite [] ipos] Q E it s2) E s := by
  refine S xi xc _ Q (Cell m led xi xc as q) ⟨m xi, m xc, ?_, rfl, by simp⟩ ?_ ?_
  · rw [← bindM_start m xi]
    exact bindM_start m xc
  · rintro i a t v m1 led1 s1 own ⟨h1, k1, rfl⟩ ha ⟨u, rfl⟩ ⟨vi, vl, rfl, rfl, hn⟩ _ _ F1 N1
    rw [bind2_find] at F1
    refine wpAny_execs_cons (wpAny_If (wpAny_mono (g1 i a t u h1 k1 own ha F1 N1) (fun b s4 h4 => ?_) fun _ _ e => e))
    obtain ⟨rfl, F4, N4, h', tk, rfl⟩ := h4
    cases hp : q a with
    | true =>
      show wpAny _ A (execs suite env) _ E _
      have hi : i < as.length := (List.getElem?_eq_some_iff.mp ha).1
      refine wpAny_mono (g2 i a t u own h' tk hi (find_at hn ha hp) F4 N4) (fun f s5 h5 => ?_) fun _ _ e => e
      cases f with
      | ret v => exact h5
      | next => exact h5.elim
      | brk => exact h5
      | cont => exact h5.elim
    | false =>
      show wpAny _ A (execs [] env) _ E _
      exact wpAny_execs_nil (wpAny_execs_nil ⟨rfl, h', tk, _, _, rfl, F4, N4, rfl, _, _, rfl, rfl, none_so_far hn ha hp⟩)
  · rintro h1 k1 m1 led1 F1 N1 _ ⟨vi, vl, rfl, rfl, hn⟩
    exact g3 h1 k1 vi vl F1 N1 fun a hm => hn a (by rw [List.take_of_length_le (Nat.le_refl _)]; exact hm)
end
end My
namespace My
theorem split {prog : Program} {w : World} {A : Around} {E : Value → Shared → Prop} {s : Shared} {Q : Value → Shared → Prop} {value slice : PySem.Expr} {l : Addr} {k : Int} {u : Tok} (h : 0 ≤ k ∧ k ≤ 1)
    (h0 : k = 0 → wpAny (model prog w) A (subscriptTail value slice (.ref l) (.int 0 u)) Q E s)
    (h1 : k = 1 → wpAny (model prog w) A (subscriptTail value slice (.ref l) (.int 1 u)) Q E s) :
    wpAny (model prog w) A (subscriptTail value slice (.ref l) (.int k u)) Q E s := by
  have e : k = 0 ∨ k = 1 := by omega
  rcases e with e | e
  · subst e
    exact h0 rfl
  · subst e
    exact h1 rfl
theorem sg_zero {k : Int} (h : k = 0) : 32768 = sg k := by
  rw [h]
  rfl
theorem sg_one {k : Int} (h : k = 1) : 2147483648 = sg k := by
  rw [h]
  rfl
end My
local macro_rules | `(tactic| walk_at "subscriptTail Name Name ref int") => `(tactic| (k_here; (with_reducible show wpAny _ _ (subscriptTail _ _ (Value.ref _) (Value.int _ _)) _ _ _); (fail_if_success (with_reducible show wpAny _ _ (subscriptTail _ _ (Value.ref _) (Value.int 0 _)) _ _ _)); (fail_if_success (with_reducible show wpAny _ _ (subscriptTail _ _ (Value.ref _) (Value.int 1 _)) _ _ _)); (refine My.split (by omega) ?_ ?_) <;> (intro kEq; first | (exfalso; omega) | skip)))
namespace My
theorem not_no {k b : Int} (h : 2 * sg k ≤ b) : (!false) = !isNum k b := by
  rw [← num_no h]
theorem not_so {k b : Int} (h : ¬ 2 * sg k ≤ b) : (!decide (Int.fmod b (sg k) < inf k)) = !isNum k b := by
  rw [num_so h]
end My
namespace My
section
variable {prog : Program} {w : World} {A : Around} {E : Value → Shared → Prop} {s : Shared} {env : Env} {h0 : Heap} {m : Str → Option Value} {led : List (Addr × Obj)} {xi xc : Str} {Q : Flow → Shared → Prop} {xv : Value}
theorem search_at {L : Addr} {as : List Int} {k : Int} {z : Tok} {test : PySem.Expr} {suite : List Stmt} {ipos : Pos}
    (S : PairSrcL prog w A E h0 L ItemKind.int as xv s m led) (eL : env.locals = L)
    (hm : m (Str.ofString "the_format") = some (.int k z))
    (g1 : ∀ (i : Nat) (a : Int) (t u : Tok) (h1 : Heap) (k1 : Nat) (own : List (Addr × Obj)), as[i]? = some a →
      Fr h0 L h1 (bindM (bindM m xi (some (.int i t))) xc (some (.int a u))) → News h0 L h1 (own ++ led) →
      wpAny (model prog w) A (isTrue test env (eval test env))
        (fun b s4 => Tested h0 L (bindM (bindM m xi (some (.int i t))) xc (some (.int a u))) (own ++ led) { s with heap := h1, toks := k1 } (!isNum k a) b s4) E { s with heap := h1, toks := k1 })
    (g2 : ∀ (i : Nat) (a : Int) (t u : Tok) (own : List (Addr × Obj)) (h1 : Heap) (k1 : Nat), i < as.length → as.findIdx? (fun b => !isNum k b) = some i →
      Fr h0 L h1 (bindM (bindM m xi (some (.int i t))) xc (some (.int a u))) → News h0 L h1 (own ++ led) →
      wpAny (model prog w) A (execs suite env) (LeaveOnly Q) E { s with heap := h1, toks := k1 })
    (g3 : ∀ h1 k1 vi vl, Fr h0 L h1 (bindM (bindM m xi vi) xc vl) → News h0 L h1 led → (∀ a ∈ as, (!isNum k a) = false) → Q .next { s with heap := h1, toks := k1 }) :
    wpAny (model prog w) A (pyIter xv) (fun it s2 => PairAt3 prog w A h0 env xi xc [.If test suite [] ipos] Q E it s2) E s := by
  subst eL
  exact search (q := fun b => !isNum k b) (S env rfl) g1 g2 g3
end
end My
namespace My
theorem said : PySem.Challenge.rw_lastbits_s02_between.wellSaid = true := by decide +kernel
theorem asked {k : Int} {ns : List Int} (h : PySem.Challenge.rw_lastbits_s02_between.pre [WData.int k, ofPy (PyData.list (ns.map PyData.int))] = true) : 0 ≤ k ∧ (∀ x ∈ ns, 0 ≤ x) := by
  obtain ⟨⟨j, xs, u⟩, w, _, e⟩ := os_pre said h
  have e1 := os_j_int (List.cons.inj e).1
  have e2 := os_j_ints (List.cons.inj (List.cons.inj e).2).1
  subst e1 e2
  have w1 : (Codec.inInt 0 4294967295 k && (Codec.inList 0 10 (Codec.inInt 0 4294967295) ns && true)) = true := w
  rw [Bool.and_true, Bool.and_eq_true] at w1
  obtain ⟨w2, w3⟩ := w1
  unfold Codec.inInt at w2
  unfold Codec.inList at w3
  rw [Bool.and_eq_true] at w2 w3
  refine ⟨of_decide_eq_true w2.1, fun x hx => ?_⟩
  have w4 := List.all_eq_true.mp w3.2 x hx
  unfold Codec.inInt at w4
  rw [Bool.and_eq_true] at w4
  exact of_decide_eq_true w4.1
end My
namespace My
theorem inf0 {k : Int} (h : k = 0) : sg k - 1 * 2 ^ Int.toNat 10 = inf k := by
  subst h
  decide
theorem inf1 {k : Int} (h : k = 1) : sg k - 1 * 2 ^ Int.toNat 23 = inf k := by
  subst h
  decide
theorem tested {k b : Int} {c1 c2 c3 : Prop} [Decidable c1] [Decidable c2] [Decidable c3] {v2 v3 : Bool} (h0 : 0 ≤ k) (h1 : k ≤ 1)
    (e1 : c1 ↔ 2 * sg k ≤ b) (e2 : c2 ↔ ¬ 2 * sg k ≤ b ∧ k = 0) (e3 : c3 ↔ ¬ 2 * sg k ≤ b ∧ k = 1)
    (a2 : k = 0 → v2 = decide (Int.fmod b (sg k) < inf k)) (a3 : k = 1 → v3 = decide (Int.fmod b (sg k) < inf k)) :
    (!(if c1 then false else if c2 then v2 else if c3 then v3 else false)) = !isNum k b := by
  refine congrArg not ?_
  by_cases h : 2 * sg k ≤ b
  · rw [if_pos (e1.mpr h)]
    exact num_no h
  · rw [if_neg (fun q => h (e1.mp q)), ← num_so h]
    have e : k = 0 ∨ k = 1 := by omega
    rcases e with e | e
    · rw [if_pos (e2.mpr ⟨h, e⟩)]
      exact a2 e
    · rw [if_neg (fun q => by have := (e2.mp q).2; omega), if_pos (e3.mpr ⟨h, e⟩)]
      exact a3 e
theorem post_of {k : Int} {ns l : List Int} (h : PySem.Challenge.rw_lastbits_s02_between.pre [WData.int k, ofPy (PyData.list (ns.map PyData.int))] = true) (he : l = PyWqambb.between k ns) :
    PySem.Challenge.rw_lastbits_s02_between.post [WData.int k, ofPy (PyData.list (ns.map PyData.int))] (ofPy (PyData.list (l.map PyData.int))) = true := by
  obtain ⟨⟨j, xs, u⟩, w, _, e⟩ := os_pre said h
  have e1 := os_j_int (List.cons.inj e).1
  have e2 := os_j_ints (List.cons.inj (List.cons.inj e).2).1
  subst e1 e2
  rw [e]
  refine os_shut said w ?_
  subst he
  exact os_list rfl
theorem told_of {k : Int} {ns l : List Int} (h : PySem.Challenge.rw_lastbits_s02_between.pre [WData.int k, ofPy (PyData.list (ns.map PyData.int))] = true)
    (h0 : 0 ≤ k) (h1 : k ≤ 1) (hl : ns.length ≤ 8) (hx : ∀ x ∈ ns, 0 ≤ x) (ha : ∀ a ∈ ns, (!isNum k a) = false) (he : l = 0 :: ns.flatMap (next k)) :
    PySem.Challenge.rw_lastbits_s02_between.post [WData.int k, ofPy (PyData.list (ns.map PyData.int))] (ofPy (PyData.list (l.map PyData.int))) = true := by
  refine post_of h ?_
  rw [he, spec_told h0 h1 hl hx]
  intro x hm
  have q := ha x hm
  cases hb : isNum k x with
  | true => rfl
  | false =>
    rw [hb] at q
    cases q
end My
local macro_rules | `(tactic| walk_at "pyIter ref") => `(tactic| (k_here; (with_reducible show wpAny _ _ (pyIter _) (fun it s2 => PairAt3 _ _ _ _ _ _ _ _ _ _ it s2) _ _); (with_unfolding_all refine' My.search_at (by assumption) ?pL ?pm ?g1 ?g2 ?g3); (case pL => exact rfl); (case pm => with_unfolding_all rfl); (case' g1 => intro i9 a9 t9 u9 h9 k9 own9 ha9 F9 N9); (case' g2 => intro i9 a9 t9 u9 own9 h9 k9 hi9 hf9 F9 N9); (case' g3 => intro h9 k9 vi9 vl9 F9 N9 hall9)))
local macro_rules | `(tactic| walk_at "Tested") => `(tactic| (k_here; (refine' My.Tested.mk ?v ?f ?n ⟨_, _, rfl⟩); (case v => first | rfl | exact My.not_no (by omega) | exact My.not_so (by omega) | exact My.tested (by omega) (by omega) ⟨fun h => h.2, fun h => ⟨My.sg_fact _, h⟩⟩ ⟨fun h => h.2, fun h => ⟨My.sg_fact _, h⟩⟩ ⟨fun h => h.2, fun h => ⟨My.sg_fact _, h⟩⟩ (fun h => by rw [My.inf0 h]) (fun h => by rw [My.inf1 h])); (case f => k_asm); (case n => k_asm)))
namespace My
section
variable {prog : Program} {w : World} {A : Around} {E : Value → Shared → Prop} {s : Shared} {h0 : Heap} {L D b : Addr} {m : Str → Option Value} {led led' : List (Addr × Obj)} {vs : List Value} {n n2 : Nat} {x y : Value}
theorem two_more {Q : Value → Shared → Prop} (F : Fr h0 L s.heap m) (N : News h0 L s.heap led) (hb : (b, W.listOf #[x, y] n2) ∈ led)
    (U : Upd D (W.listOf vs.toArray n) (W.listOf ((vs ++ [x]) ++ [y]).toArray (n + 1)) led led') (hz : vs.length ≤ 1000)
    (h : ∀ h', Fr h0 L h' m → News h0 L h' led' → Q .none { s with heap := h' }) : wpAny (model prog w) A (call (.builtin "list.extend") [.ref D, .ref b]) Q E s := by
  have e : vs.toArray.size = vs.length := List.size_toArray ..
  have e2 : (#[x, y] : Array Value).size = 2 := rfl
  refine kl_extend (its := vs.toArray) (its2 := #[x, y]) (l := (vs ++ [x]) ++ [y]) F N hb ?_ ?_ U ?_ ?_ ?_ h
  · simp
  · simp
  · intro q
    rw [Bool.and_eq_true] at q
    have q2 := of_decide_eq_true (show decide (vs.toArray.size + 2 > sizeLine) = true from q.2)
    rw [e, PySem.sizeLine_eq] at q2
    omega
  · show vs.toArray.toList.length ≤ sizeLine
    rw [PySem.sizeLine_eq]
    show vs.length ≤ _
    omega
  · rw [e, e2, PySem.sizeLine_eq]
    omega
end
theorem turn {k b r x y : Int} {pre ans : List Int} (hr : r = rank k b) (hx : x = bitsAt k (r - 1)) (hy : y = bitsAt k (r + 1))
    (h1 : ans.length = 1 + 2 * pre.length) (h2 : ans = 0 :: pre.flatMap (next k)) :
    ((ans ++ [x]) ++ [y]).length = 1 + 2 * (pre ++ [b]).length ∧ (ans ++ [x]) ++ [y] = 0 :: (pre ++ [b]).flatMap (next k) := by
  subst hr hx hy
  refine ⟨?_, ?_⟩
  · simp only [List.length_append, List.length_cons, List.length_nil]
    omega
  · rw [h2, List.flatMap_append]
    simp [next]
end My
local macro_rules | `(tactic| walk_at "call builtin:list.extend") => `(tactic| (k_here; (with_reducible show wpAny _ _ (call (Value.builtin _) [Value.ref _, Value.ref _]) _ _ _); k_dflt (refine' My.two_more ?F ?N ?b ?U ?z ?_; (case F => k_asm); (case N => k_asm); (case b => k_mem); (case U => k_upd); (case z => omega)); intro h9 F9 N9))
set_option maxRecDepth 100000 in
set_option maxHeartbeats 8000000 in
theorem PySem.Challenge.cw_lastbits_s02_between_holds : PySem.Challenge.rw_lastbits_s02_between.Holds := by
  k_with "fact sign_bit" => exact My.sg_fact
  k_with "tree" => first
    | exact My.sg_zero (by assumption)
    | exact My.sg_one (by assumption)
  k_with "call ref" => k_call_by "sign_bit" My.sg (fun (k : Int) => 0 ≤ k ∧ k ≤ 1)
  k_with "pyIter ref" => (k_of "bits" => k_state_given ["the_format"] (fun k pre answer => answer.length = 1 + 2 * pre.length ∧ answer = 0 :: pre.flatMap (My.next k)) "answer")
  k_with "state" => first
    | exact ⟨rfl, rfl⟩
    | exact My.turn (My.rank_up (by assumption)) (My.at_up (by omega)) (My.at_up (by omega)) (by assumption) (by assumption)
    | exact My.turn (My.rank_up (by assumption)) (My.at_up (by omega)) (My.at_down (by omega)) (by assumption) (by assumption)
    | exact My.turn (My.rank_up (by assumption)) (My.at_down (by omega)) (My.at_up (by omega)) (by assumption) (by assumption)
    | exact My.turn (My.rank_up (by assumption)) (My.at_down (by omega)) (My.at_down (by omega)) (by assumption) (by assumption)
    | exact My.turn (My.rank_down (by assumption)) (My.at_up (by omega)) (My.at_up (by omega)) (by assumption) (by assumption)
    | exact My.turn (My.rank_down (by assumption)) (My.at_up (by omega)) (My.at_down (by omega)) (by assumption) (by assumption)
    | exact My.turn (My.rank_down (by assumption)) (My.at_down (by omega)) (My.at_up (by omega)) (by assumption) (by assumption)
    | exact My.turn (My.rank_down (by assumption)) (My.at_down (by omega)) (My.at_down (by omega)) (by assumption) (by assumption)
  w_on
  k_headS
  (case hw => exact ⟨[.int 0, .list []], by decide +kernel, by decide +kernel⟩)
  w_strict (k_goS0; (with_reducible rename OpenSpec.pre _ _ = true => hAsk9); obtain ⟨hk9, hx9⟩ := My.asked hAsk9; (all_goals try k_fold); k_steps; (all_goals (try (w_end; sp_is; wrow_close))); (all_goals (try k_data)); all_goals first | sp_left | w_report)
  all_goals first
    | exact My.post_of (l := [-1]) (by assumption) (My.spec_refused (by omega)).symm
    | exact My.post_of (l := [-2, _]) (by assumption) (My.spec_place (by omega) (by omega) (by omega) (by assumption) (by assumption)).symm
    | exact My.told_of (by assumption) (by omega) (by omega) (by omega) (by assumption) (by assumption) (by first | assumption | rfl)
#print axioms PySem.Challenge.cw_lastbits_s02_between_holds

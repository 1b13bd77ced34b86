import PyProof.Rows.All
import KE.OsGo
import KE.OsEnd
import KE.OsArgs
import PySem.Challenge.RW_pinscores_s02_number
set_option Elab.async false
namespace My
/-- the digits of n by base b, k of them, read by base c -/
def D (b c : Nat) : Nat → Nat → Nat
  | 0, _ => 0
  | k + 1, n => n % b + c * D b c k (n / b)
theorem D_zero (b c : Nat) : ∀ k, D b c k 0 = 0
  | 0 => rfl
  | k + 1 => by
    simp only [D, Nat.zero_mod, Nat.zero_div, D_zero b c k]
    rfl
theorem foldl_add (l : List Nat) : ∀ z : Nat, l.foldl (fun (a b : Nat) => a + b) z = z + l.foldl (fun (a b : Nat) => a + b) 0 := by
  induction l with
  | nil => intro z; rfl
  | cons x r ih =>
    intro z
    rw [List.foldl_cons, List.foldl_cons, ih (z + x), ih (0 + x)]
    omega
theorem sumOf_cons (x : Nat) (r : List Nat) : Tilt.sumOf (x :: r) = x + Tilt.sumOf r := by
  unfold Tilt.sumOf
  rw [List.foldl_cons, foldl_add]
  omega
theorem sumOf_mul (c : Nat) : ∀ l : List Nat, Tilt.sumOf (l.map fun x => c * x) = c * Tilt.sumOf l
  | [] => rfl
  | x :: r => by
    rw [List.map_cons, sumOf_cons, sumOf_cons, sumOf_mul c r, Nat.mul_add]
theorem D_sum (b c : Nat) : ∀ k n, Tilt.sumOf ((List.range k).map fun i => n / b ^ i % b * c ^ i) = D b c k n
  | 0, n => rfl
  | k + 1, n => by
    rw [List.range_succ_eq_map, List.map_cons, sumOf_cons, List.map_map]
    have e : (List.range k).map ((fun i => n / b ^ i % b * c ^ i) ∘ Nat.succ) = ((List.range k).map fun i => n / b / b ^ i % b * c ^ i).map fun x => c * x := by
      rw [List.map_map]
      refine List.map_congr_left fun i _ => ?_
      show n / b ^ (i + 1) % b * c ^ (i + 1) = c * (n / b / b ^ i % b * c ^ i)
      rw [Nat.pow_succ, Nat.pow_succ, Nat.mul_comm (b ^ i) b, ← Nat.div_div_eq_div_mul, Nat.mul_comm (c ^ i) c, Nat.mul_left_comm]
    rw [e, sumOf_mul, D_sum b c k (n / b)]
    simp [D]
theorem scoreOf_D (n : Nat) : Tilt.scoreOf n = D 10 16 12 n := D_sum 10 16 12 n
theorem numberOf_D (a : Nat) : Tilt.numberOfScore a = D 16 10 12 a := D_sum 16 10 12 a
/-- all digits below ten -/
def T : Nat → Nat → Bool
  | 0, _ => true
  | k + 1, n => decide (n % 16 < 10) && T k (n / 16)
theorem T_zero : ∀ k, T k 0 = true
  | 0 => rfl
  | k + 1 => by simp [T, T_zero k]
theorem T_all : ∀ k n, ((List.range k).all fun i => decide (n / 16 ^ i % 16 < 10)) = T k n
  | 0, n => rfl
  | k + 1, n => by
    rw [List.range_succ_eq_map, List.all_cons, List.all_map]
    have e : ((List.range k).all ((fun i => decide (n / 16 ^ i % 16 < 10)) ∘ Nat.succ)) = (List.range k).all fun i => decide (n / 16 / 16 ^ i % 16 < 10) := by
      congr 1
      funext i
      show decide (n / 16 ^ (i + 1) % 16 < 10) = _
      rw [Nat.pow_succ, Nat.mul_comm (16 ^ i) 16, ← Nat.div_div_eq_div_mul]
    rw [e, T_all k (n / 16)]
    simp [T]
theorem isScore_T (a : Nat) : Tilt.isScore a = (decide (a < 2 ^ 48) && T 12 a) := by
  unfold Tilt.isScore
  rw [← T_all 12 a]
  rfl
end My
namespace My
structure RInv (b c : Nat) (v result place rest : Int) : Prop where
  ex : ∃ k : Nat, k ≤ 12 ∧ place = ((c ^ k : Nat) : Int) ∧ rest.toNat < b ^ (12 - k) ∧ result + place * ((D b c (12 - k) rest.toNat : Nat) : Int) = ((D b c 12 v.toNat : Nat) : Int)
theorem r_start {b c : Nat} {v : Int} (h : v.toNat < b ^ 12) : RInv b c v 0 1 v :=
  ⟨0, Nat.zero_le _, rfl, h, by simp⟩
theorem pow_le16 {c k : Nat} (hc : c ≤ 16) (hk : k ≤ 12) : c ^ k ≤ 281474976710656 := by
  have h1 : c ^ k ≤ 16 ^ k := Nat.pow_le_pow_left hc k
  have h2 : 16 ^ k ≤ 16 ^ 12 := Nat.pow_le_pow_right (by decide) hk
  have h3 : (16 : Nat) ^ 12 = 281474976710656 := by decide
  omega
theorem r_turn {b c : Nat} {v result place rest : Int} (hb : 0 < b) (h : RInv b c v result place rest) (p : 0 < rest) :
    RInv b c v (result + Int.fmod rest (b : Int) * place) (place * (c : Int)) (Int.fdiv rest (b : Int)) := by
  obtain ⟨k, hk, hp, hr, he⟩ := h.ex
  obtain ⟨r, rfl⟩ : ∃ r : Nat, rest = (r : Int) := ⟨rest.toNat, by omega⟩
  have hr' : r < b ^ (12 - k) := by simpa using hr
  have hk2 : k < 12 := by
    refine Nat.lt_of_le_of_ne hk ?_
    intro e
    subst e
    rw [Nat.sub_self, Nat.pow_zero] at hr'
    omega
  obtain ⟨j, hj⟩ : ∃ j, 12 - k = j + 1 := ⟨12 - k - 1, by omega⟩
  have hj' : 12 - (k + 1) = j := by omega
  have ed : Int.fdiv (r : Int) (b : Int) = ((r / b : Nat) : Int) := by
    rw [Int.fdiv_eq_ediv_of_nonneg _ (Int.natCast_nonneg b)]
    rfl
  have em : Int.fmod (r : Int) (b : Int) = ((r % b : Nat) : Int) := by
    rw [Int.fmod_eq_emod_of_nonneg _ (Int.natCast_nonneg b)]
    rfl
  refine ⟨k + 1, hk2, ?_, ?_, ?_⟩
  · rw [hp, Nat.pow_succ, Int.natCast_mul]
  · rw [ed, hj', Int.toNat_natCast]
    rw [hj, Nat.pow_succ] at hr'
    exact Nat.div_lt_of_lt_mul (by rw [Nat.mul_comm]; exact hr')
  · rw [ed, em, hj', Int.toNat_natCast]
    rw [hj, Int.toNat_natCast] at he
    rw [← he]
    simp only [D, Int.natCast_add, Int.natCast_mul]
    rw [Int.mul_add, Int.mul_comm ((r % b : Nat) : Int) place, Int.mul_assoc, Int.add_assoc]
theorem r_place {b c : Nat} {v result place rest : Int} (hc : c ≤ 16) (hc0 : 0 < c) (h : RInv b c v result place rest) : 0 < place ∧ place ≤ 281474976710656 := by
  obtain ⟨k, hk, hp, _, _⟩ := h.ex
  have h1 := pow_le16 hc hk
  have h2 : 0 < c ^ k := Nat.pow_pos hc0
  omega
theorem r_out {b c : Nat} {v result place rest : Int} (h : RInv b c v result place rest) (h0 : 0 ≤ rest) (p : ¬ 0 < rest) : result = ((D b c 12 v.toNat : Nat) : Int) := by
  obtain ⟨k, hk, hp, _, he⟩ := h.ex
  have z : rest = 0 := by omega
  subst z
  have e0 : D b c (12 - k) (0 : Int).toNat = 0 := D_zero b c _
  rw [e0] at he
  simpa using he
theorem f_less {b : Int} {n : Int} (hb : 2 ≤ b) (p : 0 < n) : (Int.fdiv n b).toNat < n.toNat := by
  rw [Int.fdiv_eq_ediv_of_nonneg n (by omega)]
  have h1 : n / b < n := Int.ediv_lt_self_of_pos_of_ne_one p (by omega) 
  have h2 : 0 ≤ n / b := Int.ediv_nonneg (by omega) (by omega)
  omega
structure SInv (a rest : Int) : Prop where
  ex : ∃ k : Nat, rest.toNat < 16 ^ k ∧ T k rest.toNat = T 12 a.toNat
theorem s_start {a : Int} (h : a < 281474976710656) : SInv a a := by
  refine ⟨12, ?_, rfl⟩
  have h3 : (16 : Nat) ^ 12 = 281474976710656 := by decide
  omega
theorem s_step {a rest : Int} (h : SInv a rest) (p : 0 < rest) : ∃ j : Nat, (rest.toNat / 16) < 16 ^ j ∧ (decide (rest.toNat % 16 < 10) && T j (rest.toNat / 16)) = T 12 a.toNat := by
  obtain ⟨k, hr, he⟩ := h.ex
  cases k with
  | zero =>
    rw [Nat.pow_zero] at hr
    omega
  | succ j =>
    refine ⟨j, ?_, he⟩
    rw [Nat.pow_succ] at hr
    omega
theorem s_turn {a rest : Int} (h : SInv a rest) (p : 0 < rest) (q : Int.fmod rest 16 ≤ 9) : SInv a (Int.fdiv rest 16) := by
  obtain ⟨j, h1, h2⟩ := s_step h p
  rw [Int.fmod_eq_emod_of_nonneg _ (by decide)] at q
  rw [Int.fdiv_eq_ediv_of_nonneg _ (by decide)]
  have e : (rest / 16).toNat = rest.toNat / 16 := by omega
  have d : decide (rest.toNat % 16 < 10) = true := decide_eq_true (by omega)
  rw [d, Bool.true_and] at h2
  exact ⟨j, by rw [e]; exact h1, by rw [e]; exact h2⟩
theorem s_bad {a rest : Int} (h : SInv a rest) (p : 0 < rest) (q : ¬ Int.fmod rest 16 ≤ 9) : T 12 a.toNat = false := by
  obtain ⟨j, h1, h2⟩ := s_step h p
  rw [Int.fmod_eq_emod_of_nonneg _ (by decide)] at q
  have d : decide (rest.toNat % 16 < 10) = false := decide_eq_false (by omega)
  rw [← h2, d, Bool.false_and]
theorem s_out {a rest : Int} (h : SInv a rest) (h0 : 0 ≤ rest) (p : ¬ 0 < rest) : T 12 a.toNat = true := by
  obtain ⟨k, _, he⟩ := h.ex
  have z : rest = 0 := by omega
  subst z
  rw [← he]
  exact T_zero k
/-- is_score, at any whole number -/
def isS (a : Int) : Bool := decide (a < 0) || Tilt.isScore a.toNat
theorem isS_nat {a : Int} (h : 0 ≤ a) : isS a = Tilt.isScore a.toNat := by
  unfold isS
  rw [decide_eq_false (by omega), Bool.false_or]
theorem isS_big {a : Int} (h : 281474976710656 ≤ a) : isS a = false := by
  rw [isS_nat (by omega), isScore_T, decide_eq_false (by omega), Bool.false_and]
theorem isS_T {a : Int} (h0 : 0 ≤ a) (h : a < 281474976710656) : isS a = T 12 a.toNat := by
  rw [isS_nat h0, isScore_T, decide_eq_true (by omega), Bool.true_and]
theorem isS_lt {a : Int} (h : isS a = true) : a < 281474976710656 := by
  refine Int.lt_of_not_ge fun g => ?_
  rw [isS_big g] at h
  cases h
/-- is_score's loop -/
structure SW (a rest : Int) : Prop where
  lt : a < 281474976710656
  or : (a < 0 ∧ rest = a) ∨ (0 ≤ a ∧ 0 ≤ rest ∧ SInv a rest)
theorem v_start {a : Int} (g : a < 281474976710656) : SW a a := by
  refine ⟨g, ?_⟩
  by_cases h : a < 0
  · exact .inl ⟨h, rfl⟩
  · exact .inr ⟨by omega, by omega, s_start g⟩
theorem v_turn {a rest : Int} (h : SW a rest) (p : 0 < rest) (q : Int.fmod rest 16 ≤ 9) : SW a (Int.fdiv rest 16) := by
  refine ⟨h.lt, ?_⟩
  rcases h.or with ⟨h1, h2⟩ | ⟨h1, h2, h3⟩
  · omega
  · refine .inr ⟨h1, ?_, s_turn h3 p q⟩
    rw [Int.fdiv_eq_ediv_of_nonneg rest (by decide)]
    omega
theorem v_bad {a rest : Int} (h : SW a rest) (p : 0 < rest) (q : ¬ Int.fmod rest 16 ≤ 9) : false = isS a := by
  rcases h.or with ⟨h1, h2⟩ | ⟨h1, h2, h3⟩
  · omega
  · rw [isS_T h1 h.lt, s_bad h3 p q]
theorem v_out {a rest : Int} (h : SW a rest) (q : ¬ 0 < rest) : true = isS a := by
  rcases h.or with ⟨h1, h2⟩ | ⟨h1, h2, h3⟩
  · unfold isS
    rw [decide_eq_true h1, Bool.true_or]
  · rw [isS_T h1 h.lt, s_out h3 h2 q]
theorem v_big {a : Int} (g : 281474976710656 ≤ a) : false = isS a := (isS_big g).symm
end My
theorem My.ans_of (n : Nat) : TiltScoreCalls.answer (.of_ n) = if Tilt.OVER ≤ n then Tilt.says (-1) else Tilt.tells [Tilt.scoreOf n] := by
  simp only [TiltScoreCalls.answer]
theorem My.OVER_eq : Tilt.OVER = 1000000000000 := by decide
theorem My.of_big {n : Int} (h : 1000000000000 ≤ n) : PyWqaqcc.of n = [-1] := by
  show (TiltScoreCalls.answer (.of_ n.toNat)).code :: (TiltScoreCalls.answer (.of_ n.toNat)).nums = _
  rw [My.ans_of, My.OVER_eq, if_pos (by omega)]
  rfl
theorem My.of_small {n r p z : Int} (h : My.RInv 10 16 n r p z) (b : 0 ≤ n ∧ n ≤ 18446744073709551615) (g : n < 1000000000000) (z0 : 0 ≤ z) (z1 : ¬ 0 < z) : PyWqaqcc.of n = [0, r] := by
  show (TiltScoreCalls.answer (.of_ n.toNat)).code :: (TiltScoreCalls.answer (.of_ n.toNat)).nums = _
  rw [My.ans_of, My.OVER_eq, if_neg (by omega), My.scoreOf_D, My.r_out h z0 z1]
  rfl
theorem My.ans_number (a : Nat) : TiltScoreCalls.answer (.number a) = if Tilt.isScore a = false then Tilt.says (-1) else Tilt.tells [Tilt.numberOfScore a] := by
  simp only [TiltScoreCalls.answer]
theorem My.num_bad {a : Int} (b : 0 ≤ a ∧ a ≤ 18446744073709551615) (g : My.isS a = false) : PyWqaqcc.number a = [-1] := by
  show (TiltScoreCalls.answer (.number a.toNat)).code :: (TiltScoreCalls.answer (.number a.toNat)).nums = _
  rw [My.isS_nat b.1] at g
  rw [My.ans_number, if_pos g]
  rfl
theorem My.num_good {a r p z : Int} (h : My.RInv 16 10 a r p z) (b : 0 ≤ a ∧ a ≤ 18446744073709551615) (g : My.isS a = true) (z0 : 0 ≤ z) (z1 : ¬ 0 < z) : PyWqaqcc.number a = [0, r] := by
  show (TiltScoreCalls.answer (.number a.toNat)).code :: (TiltScoreCalls.answer (.number a.toNat)).nums = _
  rw [My.isS_nat b.1] at g
  rw [My.ans_number, if_neg (by rw [g]; decide), My.numberOf_D, My.r_out h z0 z1]
  rfl
open PySem PySem.W PyProof.Rows
theorem My.said : PySem.Challenge.rw_pinscores_s02_number.wellSaid = true := by decide +kernel
theorem My.bnd2 {n : Int} {u : Unit} (w : Codec.withinAll PySem.Challenge.rw_pinscores_s02_number.args (n, u) = true) : 0 ≤ n ∧ n ≤ 18446744073709551615 := by
  have w' : (Codec.inInt 0 18446744073709551615 n && true) = true := w
  unfold Codec.inInt at w'
  simp only [Bool.and_eq_true, decide_eq_true_eq] at w'
  omega
theorem My.bnd {n : Int} (h : PySem.Challenge.rw_pinscores_s02_number.pre [WData.int n] = true) : 0 ≤ n ∧ n ≤ 18446744073709551615 := by
  obtain ⟨a, w, q, e⟩ := os_pre My.said h
  obtain ⟨x, u⟩ := a
  have e1 : n = x := WData.int.inj (List.cons.inj e).1
  subst e1
  exact My.bnd2 w
theorem My.fin1 {n x : Int} {u : Unit} (h : PyWqaqcc.number n = [x]) : ofPy (PyData.list [PyData.int x]) = PySem.Challenge.rw_pinscores_s02_number.ret.enc (Codec.app PySem.Challenge.rw_pinscores_s02_number.args PySem.Challenge.rw_pinscores_s02_number.f (n, u)) := by
  show _ = WData.list (List.map WData.int (PyWqaqcc.number n))
  rw [h]
  exact os_list rfl
theorem My.fin2 {n x y : Int} {u : Unit} (h : PyWqaqcc.number n = [x, y]) : ofPy (PyData.list [PyData.int x, PyData.int y]) = PySem.Challenge.rw_pinscores_s02_number.ret.enc (Codec.app PySem.Challenge.rw_pinscores_s02_number.args PySem.Challenge.rw_pinscores_s02_number.f (n, u)) := by
  show _ = WData.list (List.map WData.int (PyWqaqcc.number n))
  rw [h]
  exact os_list rfl
theorem My.w_start {n : Int} (h : 0 ≤ n ∧ n ≤ 18446744073709551615) (g : n < 281474976710656) :
    0 ≤ n ∧ (0 : Int) < 1 ∧ (1 : Int) ≤ 281474976710656 ∧ My.RInv 16 10 n 0 1 n := by
  refine ⟨h.1, by decide, by decide, My.r_start ?_⟩
  have e : (16 : Nat) ^ 12 = 281474976710656 := by decide
  omega
theorem My.w_turn {v result place rest : Int} (h : My.RInv 16 10 v result place rest) (p : 0 < rest) :
    0 ≤ Int.fdiv rest 16 ∧ 0 < place * 10 ∧ place * 10 ≤ 281474976710656 ∧ My.RInv 16 10 v (result + Int.fmod rest 16 * place) (place * 10) (Int.fdiv rest 16) := by
  have t := My.r_turn (b := 16) (c := 10) (by decide) h p
  have q := My.r_place (by decide) (by decide) t
  refine ⟨?_, q.1, q.2, t⟩
  rw [Int.fdiv_eq_ediv_of_nonneg rest (by decide)]
  omega
set_option maxRecDepth 100000 in
set_option maxHeartbeats 8000000 in
theorem PySem.Challenge.cw_pinscores_s02_number_holds : PySem.Challenge.rw_pinscores_s02_number.Holds := by
  k_with "state" => first
    | exact My.w_start (My.bnd (by assumption)) (My.isS_lt (by assumption))
    | exact My.w_turn (by assumption) (by omega)
    | exact My.v_start (by omega)
    | exact My.v_turn (by assumption) (by omega) (by omega)
  k_with "measure" => exact My.f_less (by decide) (by omega)
  k_with "tree" => first
    | exact My.v_bad (by assumption) (by omega) (by omega)
    | exact My.v_out (by assumption) (by omega)
    | exact My.v_big (by omega)
  k_with "call ref" => k_call_by "is_score" My.isS
  k_with "exec While Compare cons nil" => k_while_given ["value"] (fun v _ result place rest => 0 ≤ rest ∧ 0 < place ∧ place ≤ 281474976710656 ∧ My.RInv 16 10 v result place rest) (fun _ _ _ _ rest => rest.toNat) "result" "place" "rest"
  k_with "exec While Compare cons nil" => k_while_given ["a"] (fun a _ rest => My.SW a rest) (fun _ _ rest => rest.toNat) "rest"
  open_ks with [.int 0]
  all_goals os_open My.said with a w q e
  all_goals obtain ⟨x, u⟩ := a
  all_goals have e1 := os_j_int (List.cons.inj e).1
  all_goals subst e1
  all_goals have hb := My.bnd2 w
  all_goals first
    | exact My.fin1 (My.num_bad hb (by assumption))
    | exact My.fin2 (My.num_good (by assumption) hb (by assumption) (by assumption) (by omega))
#print axioms PySem.Challenge.cw_pinscores_s02_number_holds

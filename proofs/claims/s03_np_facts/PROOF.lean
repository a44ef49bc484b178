import PyProof.Rows.All
import Wide.All
import OpenK.AllK
import Wide.FinOn
import Open.SpecLaws
import KE.OsGo
import HandS.Base
import HandS.Call
import HandS.List
import HandS.Comp
import HandS.Ends
import HandS.Spec
import HandS.Words
import HandS.Iter
import HandS.Text
import HandS.Walk
import PySem.Challenge.RW_nightplan_s03_np_facts
set_option Elab.async false
set_option maxRecDepth 100000
set_option maxHeartbeats 2000000
namespace NP
section
open Sh73
/-! ### masks -/
theorem ofBits_fold (f : Nat → Bool) : ∀ n : Nat, let r := (List.range n).foldl (fun (a : Nat) (i : Nat) => if f i = true then a + 2 ^ i else a) 0
    r < 2 ^ n ∧ ∀ i, r.testBit i = (decide (i < n) && f i)
  | 0 => ⟨Nat.zero_lt_one, fun i => by simp⟩
  | n + 1 => by
    have ih := ofBits_fold f n
    simp only at ih ⊢
    rw [List.range_succ, List.foldl_append]
    generalize (List.range n).foldl (fun (a : Nat) (i : Nat) => if f i = true then a + 2 ^ i else a) 0 = r at ih ⊢
    obtain ⟨h1, h2⟩ := ih
    simp only [List.foldl_cons, List.foldl_nil]
    have hp : 2 ^ (n + 1) = 2 ^ n + 2 ^ n := by rw [Nat.pow_succ]; omega
    cases hf : f n with
    | false =>
      simp only [Bool.false_eq_true, if_false]
      refine ⟨by omega, fun i => ?_⟩
      rw [h2]
      by_cases hi : i = n
      · subst hi
        simp [hf]
      · have : decide (i < n + 1) = decide (i < n) := decide_eq_decide.mpr (by omega)
        rw [this]
    | true =>
      simp only [if_true]
      refine ⟨by omega, fun i => ?_⟩
      rw [Nat.add_comm]
      by_cases hi : i = n
      · subst hi
        rw [Nat.testBit_two_pow_add_eq, h2]
        simp [hf]
      · by_cases hlt : i < n
        · rw [Nat.testBit_two_pow_add_gt hlt, h2]
          have : decide (i < n + 1) = decide (i < n) := decide_eq_decide.mpr (by omega)
          rw [this]
        · have hb : 2 ^ n + r < 2 ^ i := by
            have : 2 ^ (n + 1) ≤ 2 ^ i := Nat.pow_le_pow_right (by decide) (by omega)
            omega
          rw [Nat.testBit_lt_two_pow hb]
          have : decide (i < n + 1) = false := decide_eq_false (by omega)
          rw [this]
          rfl
theorem ofBits_lt (f : Nat → Bool) : ofBits f < 2 ^ 64 := (ofBits_fold f 64).1
theorem ofBits_bit (f : Nat → Bool) (i : Nat) : (ofBits f).testBit i = (decide (i < 64) && f i) := (ofBits_fold f 64).2 i
/-! ### starts -/
def stN (m : Nat) : Nat → Nat
  | 0 => 18446744073709551615
  | j + 1 => stN m j &&& (m >>> j)
theorem stN_bit (m : Nat) : ∀ d i : Nat, (stN m d).testBit i = (decide (i < 64) && (List.range d).all fun j => m.testBit (i + j))
  | 0, i => by
    show Nat.testBit (2 ^ 64 - 1) i = _
    rw [Nat.testBit_two_pow_sub_one]
    simp
  | d + 1, i => by
    show (stN m d &&& (m >>> d)).testBit i = _
    rw [Nat.testBit_and, stN_bit m d i, Nat.testBit_shiftRight, List.range_succ, List.all_append, Nat.add_comm d i]
    simp [Bool.and_assoc]
theorem bit_big {m i : Nat} (h : m < 2 ^ 64) (hi : 64 ≤ i) : m.testBit i = false :=
  Nat.testBit_lt_two_pow (Nat.lt_of_lt_of_le h (Nat.pow_le_pow_right (by decide) hi))
theorem starts_is {m : Nat} (h : m < 2 ^ 64) (d : Nat) : starts d m = stN m d := by
  refine Nat.eq_of_testBit_eq fun i => ?_
  unfold starts
  rw [ofBits_bit, stN_bit]
  unfold has
  by_cases hi : i < 64
  · by_cases hd : i + d ≤ 64
    · simp [hi, hd, SLOTS]
    · have h1 : decide (i + d ≤ SLOTS) = false := decide_eq_false hd
      rw [h1, Bool.false_and, Bool.and_false]
      have h2 : (List.range d).all (fun j => m.testBit (i + j)) = false := by
        rw [List.all_eq_false]
        exact ⟨d - 1, List.mem_range.mpr (by omega), by rw [bit_big h (by omega)]; decide⟩
      rw [h2, Bool.and_false]
  · simp [hi]
theorem stN_lt (m : Nat) : ∀ d, stN m d < 2 ^ 64
  | 0 => by show 18446744073709551615 < 2 ^ 64; decide
  | d + 1 => Nat.lt_of_le_of_lt Nat.and_le_left (stN_lt m d)
end
end NP
/-! ### words that every def's proof uses -/
namespace NP
open PySem PySem.Spec PyProof.Rows L2
open PySem.W (Codec)
theorem ift {c : Bool} {A B : Prop} (hc : c = true) (h : A) : if c = true then A else B := by
  subst hc
  exact h
theorem iff_ {c : Bool} {A B : Prop} (hc : c = false) (h : B) : if c = true then A else B := by
  subst hc
  exact h
theorem take_snoc {α : Type} {l : List α} {i : Nat} {x : α} (h : l[i]? = some x) : l.take (i + 1) = l.take i ++ [x] := by
  rw [List.take_add_one, h]
  rfl
theorem int_at {ns : List Int} {i : Nat} {y : V} (hi : (ns.map V.int)[i]? = some y) : ∃ z, ns[i]? = some z ∧ y = V.int z := by
  rw [List.getElem?_map, Option.map_eq_some_iff] at hi
  obtain ⟨z, h1, h2⟩ := hi
  exact ⟨z, h1, h2.symm⟩
theorem new_same {H : Hp} {p : Addr} {o : HO} (h : H p = none) : Same H (upd H p o) := fun _ _ e => (upd_ne (ne_of_none e h)).trans e
/-- a list that grows at a place that was new stays apart from what stood -/
theorem grow_same {H H' : Hp} {D : Addr} {o : HO} (hD : H D = none) (s : Same H H') : Same H (upd H' D o) := fun b x e => (upd_ne (ne_of_none e hD)).trans (s b x e)
theorem pe_gi {X : Cx} {x : Str} {i : Int} {pos : Pos} (hg : Gl X x) (hm : ∃ t, X.mg x = some (.int i t)) (hd : (x == ("__debug__" : Str)) = false := by decide) : PE X (.Name x pos) (tC (.int i)) :=
  hm.elim fun t e => pe_glob (v := .int i) hg e ⟨t, rfl⟩ hd
def allB (ns : List Int) (span : Int) : Bool := ns.all fun x => !(decide (x < 0) || decide (span ≤ x))
theorem allB_snoc {ns : List Int} {span z : Int} {i : Nat} (h : ns[i]? = some z) : allB (ns.take (i + 1)) span = (allB (ns.take i) span && !(decide (z < 0) || decide (span ≤ z))) := by
  unfold allB
  rw [take_snoc h, List.all_append]
  simp
theorem allB_not {ns : List Int} {span z : Int} {i : Nat} (h : ns[i]? = some z) (hz : (decide (z < 0) || decide (span ≤ z)) = true) : allB ns span = false := by
  unfold allB
  rw [List.all_eq_false]
  exact ⟨z, List.mem_of_getElem? h, by rw [hz]; decide⟩
theorem allB_true {ns : List Int} {span : Int} (h : ∀ x ∈ ns, 0 ≤ x ∧ x < span) : allB ns span = true := by
  unfold allB
  rw [List.all_eq_true]
  intro x hx
  have := h x hx
  simp
  omega
end NP
/-! ### the slots of a mask as a list; how many masks have a slot -/
namespace NP
section
open Sh73
def bitsL (m : Nat) : List Nat := (List.range 64).filter fun i => m.testBit i
theorem bitsL_mem {m i : Nat} : i ∈ bitsL m ↔ i < 64 ∧ m.testBit i = true := by
  unfold bitsL
  rw [List.mem_filter, List.mem_range]
theorem bitsL_len (m : Nat) : (bitsL m).length ≤ 64 := by
  have := List.length_filter_le (fun i => m.testBit i) (List.range 64)
  rw [List.length_range] at this
  exact this
/-- one slot more of those gone through -/
def bitsTo (m n : Nat) : List Nat := (List.range n).filter fun i => m.testBit i
theorem bitsTo_succ (m n : Nat) : bitsTo m (n + 1) = bitsTo m n ++ (if m.testBit n = true then [n] else []) := by
  unfold bitsTo
  rw [List.range_succ, List.filter_append]
  cases h : m.testBit n <;> simp [h]
theorem bitsTo_len (m n : Nat) : (bitsTo m n).length ≤ n := by
  have := List.length_filter_le (fun i => m.testBit i) (List.range n)
  rw [List.length_range] at this
  exact this
theorem bitsL_nodup (m : Nat) : (bitsL m).Nodup := List.nodup_range.filter _
def natV (l : List Nat) : List Int := l.map fun (x : Nat) => (x : Int)
/-- counts, each slot of js one more -/
def bump (cs : List Int) (js : List Nat) : List Int := js.foldl (fun c j => c.set j (c.getD j 0 + 1)) cs
theorem bump_snoc (cs : List Int) (js : List Nat) (j : Nat) : bump cs (js ++ [j]) = (bump cs js).set j ((bump cs js).getD j 0 + 1) := by
  unfold bump
  rw [List.foldl_append]
  rfl
theorem bump_len (cs : List Int) : ∀ js : List Nat, (bump cs js).length = cs.length
  | [] => rfl
  | j :: js => by
    have := bump_len (cs.set j (cs.getD j 0 + 1)) js
    rw [List.length_set] at this
    exact this
theorem bump_at : ∀ (js : List Nat) (cs : List Int) (k : Nat), k < cs.length → (bump cs js).getD k 0 = cs.getD k 0 + ((js.count k : Nat) : Int)
  | [], cs, k, _ => by
    show cs.getD k 0 = _
    simp
  | j :: js, cs, k, hk => by
    have ih := bump_at js (cs.set j (cs.getD j 0 + 1)) k (by rw [List.length_set]; exact hk)
    show (bump (cs.set j (cs.getD j 0 + 1)) js).getD k 0 = _
    rw [ih, List.count_cons]
    by_cases c : j = k
    · subst c
      have e : (cs.set j (cs.getD j 0 + 1)).getD j 0 = cs.getD j 0 + 1 := by
        rw [List.getD_eq_getElem?_getD, List.getElem?_set_self hk]
        rfl
      rw [e]
      simp
      omega
    · have e : (cs.set j (cs.getD j 0 + 1)).getD k 0 = cs.getD k 0 := by
        rw [List.getD_eq_getElem?_getD, List.getElem?_set_ne c, List.getD_eq_getElem?_getD]
      rw [e]
      have : (j == k) = false := by simpa using c
      rw [this]
      simp
theorem count_bits (m k : Nat) (hk : k < 64) : (bitsL m).count k = if m.testBit k = true then 1 else 0 := by
  by_cases c : m.testBit k = true
  · rw [if_pos c, (bitsL_nodup m).count, if_pos (bitsL_mem.mpr ⟨hk, c⟩)]
  · rw [if_neg c]
    refine List.count_eq_zero.mpr fun h => c (bitsL_mem.mp h).2
def crowdV (l : List Int) : List Int := (List.range 64).map fun i => ((crowd (Sh73Neutral.nats l) i : Nat) : Int)
theorem crowdV_len (l : List Int) : (crowdV l).length = 64 := by
  unfold crowdV
  rw [List.length_map, List.length_range]
theorem crowdV_at (l : List Int) (k : Nat) (hk : k < 64) : (crowdV l).getD k 0 = ((crowd (Sh73Neutral.nats l) k : Nat) : Int) := by
  unfold crowdV
  rw [List.getD_eq_getElem?_getD, List.getElem?_map, List.getElem?_range hk]
  rfl
theorem crowdV_nil : crowdV [] = List.replicate 64 0 := rfl
theorem crowdV_snoc (l : List Int) (x : Int) : crowdV (l ++ [x]) = bump (crowdV l) (bitsL x.toNat) := by
  refine List.ext_getElem (by rw [bump_len, crowdV_len, crowdV_len]) fun k h1 h2 => ?_
  have hk : k < 64 := by rw [crowdV_len] at h1; exact h1
  have e1 : (crowdV (l ++ [x]))[k] = (crowdV (l ++ [x])).getD k 0 := by
    rw [List.getD_eq_getElem?_getD, List.getElem?_eq_getElem h1]
    rfl
  have e2 : (bump (crowdV l) (bitsL x.toNat))[k] = (bump (crowdV l) (bitsL x.toNat)).getD k 0 := by
    rw [List.getD_eq_getElem?_getD, List.getElem?_eq_getElem h2]
    rfl
  refine e1.trans (Eq.trans ?_ e2.symm)
  rw [crowdV_at _ _ hk, bump_at _ _ _ (by rw [crowdV_len]; exact hk), crowdV_at _ _ hk, count_bits _ _ hk]
  unfold crowd Sh73Neutral.nats
  rw [List.map_append, List.filter_append, List.length_append]
  unfold has
  cases h : x.toNat.testBit k <;> simp [h]
def crowdP (l : List Int) : List Int := if 1024 < (l.length : Int) then [-2] else 0 :: crowdV l
theorem crowd_ok (l : List Int) : crowdP l = PySh73.np_crowd l := by
  have e1 : (Sh73Neutral.nats l).length = l.length := List.length_map ..
  unfold crowdP PySh73.np_crowd Sh73Neutral.f
  simp only [Sh73Neutral.callOf, Sh73.few, e1]
  by_cases c : 1024 < (l.length : Int)
  · rw [if_pos c]
    have : decide (l.length ≤ 1024) = false := decide_eq_false (by omega)
    rw [this]
    rfl
  · rw [if_neg c]
    have : decide (l.length ≤ 1024) = true := decide_eq_true (by omega)
    rw [this]
    simp only [if_true, Sh73.answer, Sh73.done, Sh73Neutral.told, Sh73Neutral.ints, List.map_map]
    rfl
end
end NP
/-! ### facts of a mask: rows by their lengths -/
namespace NP
section
open Sh73
/-- how many in a row from slot i on, of at most k slots -/
def rowN (m : Nat) : Nat → Nat → Nat
  | _, 0 => 0
  | i, k + 1 => if m.testBit i = true then rowN m (i + 1) k + 1 else 0
theorem rowN_le (m : Nat) : ∀ i k : Nat, rowN m i k ≤ k
  | _, 0 => Nat.le_refl _
  | i, k + 1 => by
    unfold rowN
    have := rowN_le m (i + 1) k
    split <;> omega
theorem rowN_iff (m : Nat) : ∀ i k d : Nat, d ≤ k → (((List.range d).all fun j => has m (i + j)) = true ↔ d ≤ rowN m i k)
  | _, _, 0, _ => by simp
  | _, 0, d + 1, h => absurd h (by omega)
  | i, k + 1, d + 1, h => by
    have ih := rowN_iff m (i + 1) k d (by omega)
    rw [List.range_succ_eq_map, List.all_cons, List.all_map, Bool.and_eq_true]
    have e : ((List.range d).all ((fun j => has m (i + j)) ∘ Nat.succ)) = ((List.range d).all fun j => has m (i + 1 + j)) := by
      congr 1
      funext j
      show has m (i + (j + 1)) = has m (i + 1 + j)
      rw [Nat.add_right_comm, Nat.add_assoc]
    have u : rowN m i (k + 1) = if m.testBit i = true then rowN m (i + 1) k + 1 else 0 := rfl
    rw [e, ih, u]
    unfold has
    rw [Nat.add_zero]
    by_cases c : m.testBit i = true
    · rw [if_pos c]
      simp [c]
    · rw [if_neg c]
      simp [c]
/-- the greatest below n of which p holds, if p goes down -/
theorem find_last (p : Nat → Bool) (r : Nat) : ∀ n : Nat, (∀ d, d < n → (p d = true ↔ d ≤ r)) → r < n → ((List.range n).reverse.find? p) = some r
  | 0, _, h => absurd h (by omega)
  | n + 1, hp, h => by
    rw [List.range_succ, List.reverse_append, List.reverse_singleton, List.singleton_append, List.find?_cons]
    by_cases c : n ≤ r
    · have e : n = r := by omega
      subst e
      have hp' : p n = true := (hp n (by omega)).mpr (Nat.le_refl _)
      rw [hp']
    · have hn : p n = false := by
        cases z : p n with
        | false => rfl
        | true => exact absurd ((hp n (by omega)).mp z) c
      rw [hn]
      exact find_last p r n (fun d hd => hp d (by omega)) (by omega)
theorem row_is (m i : Nat) : (((List.range (SLOTS - i + 1)).reverse.find? fun d => (List.range d).all fun j => has m (i + j)).getD 0) = rowN m i (64 - i) := by
  rw [find_last _ (rowN m i (64 - i)) _ (fun d hd => rowN_iff m i (64 - i) d (by unfold SLOTS at hd; omega)) (by have := rowN_le m i (64 - i); unfold SLOTS; omega)]
  rfl
/-- the longest row: nothing is longer, nothing ahead of it as long -/
structure LongIs (m : Nat) (upto : Nat) (b : Nat × Nat) : Prop where
  most : ∀ i, i < upto → rowN m i (64 - i) ≤ b.2
  none : b.2 = 0 → b.1 = 0
  at_ : 0 < b.2 → b.1 < upto ∧ rowN m b.1 (64 - b.1) = b.2
  first : ∀ i, i < b.1 → rowN m i (64 - i) < b.2
theorem LongIs.uniq {m n : Nat} {a b : Nat × Nat} (x : LongIs m n a) (y : LongIs m n b) : a = b := by
  have h2 : a.2 = b.2 := by
    by_cases ha : 0 < a.2
    · by_cases hb : 0 < b.2
      · have h1 := x.at_ ha
        have h3 := y.at_ hb
        have h4 := y.most _ h1.1
        have h5 := x.most _ h3.1
        omega
      · have h1 := x.at_ ha
        have h4 := y.most _ h1.1
        omega
    · by_cases hb : 0 < b.2
      · have h3 := y.at_ hb
        have h5 := x.most _ h3.1
        omega
      · omega
  have h1 : a.1 = b.1 := by
    by_cases ha : 0 < a.2
    · have p := x.at_ ha
      have q := y.at_ (by omega)
      by_cases c : a.1 < b.1
      · have := y.first _ c
        omega
      · by_cases d : b.1 < a.1
        · have := x.first _ d
          omega
        · omega
    · rw [x.none (by omega), y.none (by omega)]
  exact Prod.ext h1 h2
theorem longest_fold (m : Nat) : ∀ n : Nat, n ≤ 64 → LongIs m n ((List.range n).foldl (fun (b : Nat × Nat) (i : Nat) => let n := ((List.range (SLOTS - i + 1)).reverse.find? fun d => (List.range d).all fun j => has m (i + j)).getD 0
  if b.2 < n then (i, n) else b) (0, 0))
  | 0, _ => ⟨fun i h => absurd h (by omega), fun _ => rfl, fun h => absurd h (Nat.lt_irrefl 0), fun i h => absurd h (by simp)⟩
  | n + 1, h => by
    have ih := longest_fold m n (by omega)
    rw [List.range_succ, List.foldl_append]
    generalize (List.range n).foldl _ (0, 0) = b at ih ⊢
    simp only [List.foldl_cons, List.foldl_nil]
    rw [row_is]
    by_cases c : b.2 < rowN m n (64 - n)
    · rw [if_pos c]
      refine ⟨fun i hi => ?_, fun e => ?_, fun _ => ⟨Nat.lt_succ_self _, rfl⟩, fun i hi => ?_⟩
      · by_cases z : i = n
        · subst z
          exact Nat.le_refl _
        · have := ih.most i (by omega)
          show _ ≤ rowN m n (64 - n)
          omega
      · have e' : rowN m n (64 - n) = 0 := e
        omega
      · have hi' : i < n := hi
        have := ih.most i hi'
        show _ < rowN m n (64 - n)
        omega
    · rw [if_neg c]
      refine ⟨fun i hi => ?_, ih.none, fun h => ⟨?_, (ih.at_ h).2⟩, ih.first⟩
      · by_cases z : i = n
        · subst z
          omega
        · exact ih.most i (by omega)
      · have := (ih.at_ h).1
        omega
theorem longest_is (m : Nat) : LongIs m 64 (longest m) := longest_fold m 64 (Nat.le_refl _)
theorem rowN_step {m i : Nat} (h : i < 64) : rowN m i (64 - i) = if m.testBit i = true then rowN m (i + 1) (64 - (i + 1)) + 1 else 0 := by
  have e : 64 - i = (64 - (i + 1)) + 1 := by omega
  rw [e]
  rfl
end
end NP
/-! ### the longest row, slot by slot, and the five facts -/
namespace NP
section
open Sh73
abbrev Lr : Type := Int × Int × Int × Int
def lrStep (s : Lr) (x : Int) : Lr :=
  let n := if x = s.2.2.2 + 1 then s.2.2.1 + 1 else 1
  if s.2.1 < n then (x - n + 1, n, n, x) else (s.1, s.2.1, n, x)
def lrF (xs : List Int) : Lr := xs.foldl lrStep (0, 0, 0, -1)
theorem lrF_snoc (xs : List Int) (x : Int) : lrF (xs ++ [x]) = lrStep (lrF xs) x := by
  unfold lrF
  rw [List.foldl_append]
  rfl
/-- how many in a row end just ahead of n -/
def dn (m : Nat) : Nat → Nat
  | 0 => 0
  | n + 1 => if m.testBit n = true then dn m n + 1 else 0
theorem dn_le (m : Nat) : ∀ n, dn m n ≤ n
  | 0 => Nat.le_refl _
  | n + 1 => by
    have := dn_le m n
    unfold dn
    split <;> omega
theorem dn_set (m : Nat) : ∀ n j, j < n → n - dn m n ≤ j → m.testBit j = true
  | 0, j, h, _ => absurd h (by omega)
  | n + 1, j, h, h2 => by
    unfold dn at h2
    by_cases c : m.testBit n = true
    · rw [if_pos c] at h2
      by_cases e : j = n
      · rw [e]; exact c
      · exact dn_set m n j (by omega) (by omega)
    · rw [if_neg c] at h2
      omega
theorem dn_stop (m : Nat) : ∀ n, dn m n < n → m.testBit (n - dn m n - 1) = false
  | 0, h => absurd h (by omega)
  | n + 1, h => by
    unfold dn at h ⊢
    by_cases c : m.testBit n = true
    · rw [if_pos c] at h ⊢
      have e : n + 1 - (dn m n + 1) - 1 = n - dn m n - 1 := by omega
      rw [e]
      exact dn_stop m n (by omega)
    · rw [if_neg c]
      have e : n + 1 - 0 - 1 = n := by omega
      rw [e]
      cases z : m.testBit n with
      | false => rfl
      | true => exact absurd z c
theorem rowN_full (m : Nat) : ∀ i k, (∀ j, i ≤ j → j < i + k → m.testBit j = true) → rowN m i k = k
  | _, 0, _ => rfl
  | i, k + 1, h => by
    unfold rowN
    rw [if_pos (h i (Nat.le_refl _) (by omega)), rowN_full m (i + 1) k fun j h1 h2 => h j (by omega) (by omega)]
theorem rowN_stop (m : Nat) : ∀ i k j, i ≤ j → j < i + k → m.testBit j = false → rowN m i (k + 1) = rowN m i k
  | i, 0, j, h1, h2, _ => absurd h2 (by omega)
  | i, k + 1, j, h1, h2, hb => by
    have e1 : rowN m i (k + 1 + 1) = if m.testBit i = true then rowN m (i + 1) (k + 1) + 1 else 0 := rfl
    have e2 : rowN m i (k + 1) = if m.testBit i = true then rowN m (i + 1) k + 1 else 0 := rfl
    rw [e1, e2]
    by_cases c : m.testBit i = true
    · rw [if_pos c, if_pos c]
      have : i ≠ j := fun z => by rw [z, hb] at c; cases c
      rw [rowN_stop m (i + 1) k j (by omega) (by omega) hb]
    · rw [if_neg c, if_neg c]
/-- the longest row of the slots ahead of n -/
structure LongN (m n : Nat) (b : Nat × Nat) : Prop where
  most : ∀ i, i < n → rowN m i (n - i) ≤ b.2
  none : b.2 = 0 → b.1 = 0
  at_ : 0 < b.2 → b.1 < n ∧ rowN m b.1 (n - b.1) = b.2
  first : ∀ i, i < b.1 → rowN m i (n - i) < b.2
theorem LongN.skip {m n : Nat} {b : Nat × Nat} (h : LongN m n b) (c : m.testBit n = false) : LongN m (n + 1) b := by
  have e : ∀ i, i ≤ n → rowN m i (n + 1 - i) = rowN m i (n - i) := fun i hi => by
    by_cases z : i = n
    · subst z
      have e1 : i + 1 - i = 1 := by omega
      have e2 : i - i = 0 := by omega
      rw [e1, e2]
      show (if m.testBit i = true then rowN m (i + 1) 0 + 1 else 0) = 0
      rw [c]
      rfl
    · have e1 : n + 1 - i = (n - i) + 1 := by omega
      rw [e1]
      clear e1
      have hn : ∀ k i, i + k = n → rowN m i (k + 1) = rowN m i k := fun k => by
        induction k with
        | zero =>
          intro i hi
          have : i = n := by omega
          subst this
          show (if m.testBit i = true then rowN m (i + 1) 0 + 1 else 0) = 0
          rw [c]
          rfl
        | succ k ih =>
          intro i hi
          have e1 : rowN m i (k + 1 + 1) = if m.testBit i = true then rowN m (i + 1) (k + 1) + 1 else 0 := rfl
          have e2 : rowN m i (k + 1) = if m.testBit i = true then rowN m (i + 1) k + 1 else 0 := rfl
          rw [e1, e2, ih (i + 1) (by omega)]
      exact hn (n - i) i (by omega)
  refine ⟨fun i hi => ?_, h.none, fun hp => ?_, fun i hi => ?_⟩
  · rw [e i (by omega)]
    by_cases z : i = n
    · subst z
      have e2 : i - i = 0 := by omega
      rw [e2]
      exact Nat.zero_le _
    · exact h.most i (by omega)
  · obtain ⟨h1, h2⟩ := h.at_ hp
    exact ⟨by omega, by rw [e _ (by omega)]; exact h2⟩
  · have hb : b.1 ≤ n := by
      by_cases z : 0 < b.2
      · have := (h.at_ z).1
        omega
      · rw [h.none (by omega)]
        omega
    rw [e i (by omega)]
    exact h.first i hi
theorem LongN.take {m n : Nat} {b : Nat × Nat} (h : LongN m n b) (c : m.testBit n = true) :
    LongN m (n + 1) (if b.2 < dn m n + 1 then (n - dn m n, dn m n + 1) else b) := by
  have hd := dn_le m n
  have full : ∀ i, i ≤ n → n - dn m n ≤ i → rowN m i (n + 1 - i) = n + 1 - i := fun i h1 h2 => rowN_full m i _ fun j g1 g2 => by
    by_cases z : j = n
    · rw [z]; exact c
    · exact dn_set m n j (by omega) (by omega)
  have full0 : ∀ i, i ≤ n → n - dn m n ≤ i → rowN m i (n - i) = n - i := fun i h1 h2 => rowN_full m i _ fun j g1 g2 => dn_set m n j (by omega) (by omega)
  have same : ∀ i, i < n - dn m n → rowN m i (n + 1 - i) = rowN m i (n - i) := fun i hi => by
    have e1 : n + 1 - i = (n - i) + 1 := by omega
    rw [e1]
    exact rowN_stop m i (n - i) (n - dn m n - 1) (by omega) (by omega) (dn_stop m n (by omega))
  by_cases d : b.2 < dn m n + 1
  · rw [if_pos d]
    refine ⟨fun i hi => ?_, fun e => absurd e (Nat.succ_ne_zero _), fun _ => ⟨?_, ?_⟩, fun i hi => ?_⟩
    · by_cases z : i < n - dn m n
      · rw [same i z]
        have := h.most i (by omega)
        show _ ≤ dn m n + 1
        omega
      · rw [full i (by omega) (by omega)]
        show _ ≤ dn m n + 1
        omega
    · show n - dn m n < n + 1
      omega
    · show rowN m (n - dn m n) (n + 1 - (n - dn m n)) = dn m n + 1
      rw [full _ (by omega) (Nat.le_refl _)]
      omega
    · have hi' : i < n - dn m n := hi
      rw [same i hi']
      have := h.most i (by omega)
      show _ < dn m n + 1
      omega
  · rw [if_neg d]
    have hp : 0 < b.2 := by omega
    obtain ⟨h1, h2⟩ := h.at_ hp
    have hlt : b.1 < n - dn m n := by
      by_cases z : b.1 < n - dn m n
      · exact z
      · have := full0 b.1 (by omega) (by omega)
        omega
    refine ⟨fun i hi => ?_, h.none, fun _ => ⟨by omega, ?_⟩, fun i hi => ?_⟩
    · by_cases z : i < n - dn m n
      · rw [same i z]
        exact h.most i (by omega)
      · rw [full i (by omega) (by omega)]
        omega
    · rw [same _ hlt]
      exact h2
    · rw [same i (by omega)]
      exact h.first i hi
/-- what the walk knows behind the slots ahead of n -/
structure LrIs (m n : Nat) (s : Lr) : Prop where
  b : ∃ b : Nat × Nat, LongN m n b ∧ s.1 = (b.1 : Int) ∧ s.2.1 = (b.2 : Int)
  last : -1 ≤ s.2.2.2 ∧ s.2.2.2 + 1 ≤ (n : Int)
  len : s.2.2.2 + 1 = (n : Int) → s.2.2.1 = (dn m n : Int)
  far : s.2.2.2 + 1 ≠ (n : Int) → dn m n = 0
theorem lr_all (m : Nat) : ∀ n, LrIs m n (lrF (natV (bitsTo m n)))
  | 0 => ⟨⟨(0, 0), ⟨fun i h => absurd h (by omega), fun _ => rfl, fun h => absurd h (Nat.lt_irrefl 0), fun i h => absurd h (by simp)⟩, rfl, rfl⟩, ⟨Int.le_refl _, Int.le_refl _⟩, fun _ => rfl, fun h => absurd rfl h⟩
  | n + 1 => by
    obtain ⟨⟨b, hb, e1, e2⟩, hl, hlen, hfar⟩ := lr_all m n
    rw [bitsTo_succ]
    by_cases c : m.testBit n = true
    · rw [if_pos c]
      have es : natV (bitsTo m n ++ [n]) = natV (bitsTo m n) ++ [(n : Int)] := by
        unfold natV
        rw [List.map_append]
        rfl
      rw [es, lrF_snoc]
      generalize lrF (natV (bitsTo m n)) = s at *
      have el : (if (n : Int) = s.2.2.2 + 1 then s.2.2.1 + 1 else 1) = ((dn m n + 1 : Nat) : Int) := by
        by_cases z : (n : Int) = s.2.2.2 + 1
        · rw [if_pos z, hlen z.symm]
          omega
        · rw [if_neg z, hfar (fun y => z y.symm)]
          rfl
      have ed : dn m (n + 1) = dn m n + 1 := by
        show (if m.testBit n = true then dn m n + 1 else 0) = _
        rw [if_pos c]
      have ht := hb.take c
      have hdn := dn_le m n
      unfold lrStep
      rw [el]
      by_cases d : b.2 < dn m n + 1
      · rw [if_pos d] at ht
        have d' : s.2.1 < ((dn m n + 1 : Nat) : Int) := by omega
        simp only [if_pos d']
        refine ⟨⟨_, ht, ?_, rfl⟩, ⟨?_, ?_⟩, fun _ => ?_, fun h => absurd ?_ h⟩
        · show (n : Int) - ((dn m n + 1 : Nat) : Int) + 1 = ((n - dn m n : Nat) : Int)
          omega
        · show (-1 : Int) ≤ (n : Int)
          omega
        · show (n : Int) + 1 ≤ ((n + 1 : Nat) : Int)
          omega
        · show ((dn m n + 1 : Nat) : Int) = _
          rw [ed]
        · show (n : Int) + 1 = ((n + 1 : Nat) : Int)
          omega
      · rw [if_neg d] at ht
        have d' : ¬ s.2.1 < ((dn m n + 1 : Nat) : Int) := by omega
        simp only [if_neg d']
        refine ⟨⟨_, ht, e1, e2⟩, ⟨?_, ?_⟩, fun _ => ?_, fun h => absurd ?_ h⟩
        · show (-1 : Int) ≤ (n : Int)
          omega
        · show (n : Int) + 1 ≤ ((n + 1 : Nat) : Int)
          omega
        · show ((dn m n + 1 : Nat) : Int) = _
          rw [ed]
        · show (n : Int) + 1 = ((n + 1 : Nat) : Int)
          omega
    · rw [if_neg c, List.append_nil]
      have c' : m.testBit n = false := by
        cases z : m.testBit n with
        | false => rfl
        | true => exact absurd z c
      refine ⟨⟨b, hb.skip c', e1, e2⟩, ⟨hl.1, by omega⟩, fun h => absurd h (by omega), fun _ => ?_⟩
      show (if m.testBit n = true then dn m n + 1 else 0) = 0
      rw [if_neg c]
theorem lr_is (m : Nat) : (lrF (natV (bitsL m))).1 = ((longest m).1 : Int) ∧ (lrF (natV (bitsL m))).2.1 = ((longest m).2 : Int) := by
  have h : LrIs m 64 (lrF (natV (bitsL m))) := lr_all m 64
  obtain ⟨b, hb, e1, e2⟩ := h.b
  have : b = longest m := LongIs.uniq ⟨hb.most, hb.none, hb.at_, hb.first⟩ (longest_is m)
  rw [e1, e2, this]
  exact ⟨rfl, rfl⟩
/-! ### the five facts -/
def factsV (m : Nat) : List Int := [(count m : Int), (first m : Int), (last m : Int), ((longest m).1 : Int), ((longest m).2 : Int)]
theorem count_is (m : Nat) : count m = (bitsL m).length := rfl
theorem first_nil {m : Nat} (h : bitsL m = []) : first m = 64 := by
  unfold first has SLOTS
  have : (List.range 64).find? (fun i => m.testBit i) = none := by
    rw [List.find?_eq_none]
    intro x hx hb
    have : x ∈ bitsL m := bitsL_mem.mpr ⟨List.mem_range.mp hx, hb⟩
    rw [h] at this
    cases this
  rw [this]
  rfl
theorem last_nil {m : Nat} (h : bitsL m = []) : last m = 64 := by
  unfold last has SLOTS
  have : (List.range 64).reverse.find? (fun i => m.testBit i) = none := by
    rw [List.find?_eq_none]
    intro x hx hb
    have : x ∈ bitsL m := bitsL_mem.mpr ⟨List.mem_range.mp (List.mem_reverse.mp hx), hb⟩
    rw [h] at this
    cases this
  rw [this]
  rfl
theorem first_is {m : Nat} {j : Nat} (h : (bitsL m)[0]? = some j) : first m = j := by
  unfold first has SLOTS
  unfold bitsL at h
  rw [← List.head?_eq_getElem?, List.head?_filter] at h
  rw [h]
  rfl
theorem last_is {m : Nat} {j : Nat} (h : (bitsL m)[(bitsL m).length - 1]? = some j) : last m = j := by
  unfold last has SLOTS
  rw [← List.getLast?_eq_getElem?, List.getLast?_eq_head?_reverse] at h
  unfold bitsL at h
  rw [← List.filter_reverse, List.head?_filter] at h
  rw [h]
  rfl
theorem longest_nil {m : Nat} (h : bitsL m = []) : longest m = (0, 0) := by
  have e := lr_is m
  rw [h] at e
  have e1 : (0 : Int) = ((longest m).1 : Int) := e.1
  have e2 : (0 : Int) = ((longest m).2 : Int) := e.2
  exact Prod.ext (by show (longest m).1 = 0; omega) (by show (longest m).2 = 0; omega)
theorem factsV_nil {m : Nat} (h : bitsL m = []) : factsV m = [0, 64, 64, 0, 0] := by
  unfold factsV
  rw [count_is, h, first_nil h, last_nil h, longest_nil h]
  rfl
theorem factsV_some {m : Nat} {a b : Nat} (h1 : (bitsL m)[0]? = some a) (h2 : (bitsL m)[(bitsL m).length - 1]? = some b) :
    factsV m = [((bitsL m).length : Int), (a : Int), (b : Int)] ++ [(lrF (natV (bitsL m))).1, (lrF (natV (bitsL m))).2.1] := by
  unfold factsV
  rw [count_is, first_is h1, last_is h2, (lr_is m).1, (lr_is m).2]
  rfl
def factsP (l : List Int) : List Int := if 1024 < (l.length : Int) then [-2] else 0 :: l.flatMap fun x => factsV x.toNat
theorem facts_ok (l : List Int) : factsP l = PySh73.np_facts l := by
  have e1 : (Sh73Neutral.nats l).length = l.length := List.length_map ..
  unfold factsP PySh73.np_facts Sh73Neutral.f
  simp only [Sh73Neutral.callOf, Sh73.few, e1]
  by_cases c : 1024 < (l.length : Int)
  · rw [if_pos c]
    have : decide (l.length ≤ 1024) = false := decide_eq_false (by omega)
    rw [this]
    rfl
  · rw [if_neg c]
    have : decide (l.length ≤ 1024) = true := decide_eq_true (by omega)
    rw [this]
    simp only [if_true, Sh73.answer, Sh73.done, Sh73Neutral.told, Sh73Neutral.ints, Sh73Neutral.nats, List.map_flatMap, List.flatMap_map]
    rfl
end
end NP
namespace NP
open PySem PySem.Spec PyProof.Rows L2
open PySem.W (Codec)
def top (i : Nat) : Stmt := PySem.Challenge.pw_nightplan_s03_np_facts.main.body.getD i (.Pass ⟨0, 0, 0, 0⟩)
abbrev s_all_below : Stmt := top 5
abbrev s_masks_in_range : Stmt := top 6
abbrev s_bits_of : Stmt := top 7
abbrev s_longest_row : Stmt := top 8
abbrev s_facts_of : Stmt := top 9
abbrev s_np_facts : Stmt := top 10
/-- a def as the top has left it: its text, how it binds, its name -/
structure Def (K : PySem.W.Frag) (mg : Str → Option Value) (x : Str) (st : Stmt) (ps : List Str) (f : Addr) (fd : FuncData) : Prop where
  F : Fun K x x st f fd
  b : Binds K fd ps []
  g : mg x = some (.ref f)
structure Txt (K : PySem.W.Frag) (mg : Str → Option Value) : Prop where
  g_OUT_OF_RANGE : ∃ t, mg "OUT_OF_RANGE" = some (.int (-2) t)
  g_SLOTS : ∃ t, mg "SLOTS" = some (.int 64 t)
  g_LONG_SPAN : ∃ t, mg "LONG_SPAN" = some (.int 18446744073709551616 t)
  g_MOST_MASKS : ∃ t, mg "MOST_MASKS" = some (.int 1024 t)
  m_len : mg "len" = none
  m_range : mg "range" = none
  d_all_below : ∃ f fd, Def K mg "all_below" s_all_below ["numbers", "span"] f fd
  d_masks_in_range : ∃ f fd, Def K mg "masks_in_range" s_masks_in_range ["masks", "most"] f fd
  d_bits_of : ∃ f fd, Def K mg "bits_of" s_bits_of ["mask"] f fd
  d_longest_row : ∃ f fd, Def K mg "longest_row" s_longest_row ["slots"] f fd
  d_facts_of : ∃ f fd, Def K mg "facts_of" s_facts_of ["mask"] f fd
section
variable {P : Program} {w : World} {K : PySem.W.Frag} {mg : Str → Option Value} {base : Heap}
/-! ### all_below -/
def sp_all_below (K : PySem.W.Frag) : Sp := fun vs H Q _ => ∃ (a : Addr) (ns : List Int) (span : Int), vs = [.ref a, .int span] ∧ SqL K H a (ns.map V.int) ∧ Q (.bl (allB ns span)) H
theorem sc_all_below : FnScope ["numbers", "span", "number"] ["numbers", "span"] (defScope s_all_below) := ⟨rfl, rfl, rfl, by decide +kernel, rfl, by decide +kernel, by decide +kernel⟩
theorem ok_all_below {f : Addr} {fd : FuncData} {k : Nat} (D : Def K mg "all_below" s_all_below ["numbers", "span"] f fd) : FnOk P w K mg base CX0 (k + 1) f fd ["numbers", "span"] (sp_all_below K) := by
  refine D.F.ok sc_all_below (fun vs H Q E h => ?_) (fun cdv A outer s H vs Q E hr h => ?_)
  · obtain ⟨a, ns, span, rfl, _⟩ := h
    rfl
  · obtain ⟨a, ns, span, rfl, hS, q⟩ := h
    refine ⟨_, pss_cons (ps_for PassesOwn.never rfl (pi_list (pv 0)) (pg_name (i := 2) sc_all_below.nd rfl (.inl rfl))
        (pss_one (ps_if (PW.pt (pw_or (pt_cmpR op_lt (pv 2) pe_int (nomark _)) (pw_or1 (pt_cmpR op_ge (pv 2) (pv 1) (nomark _))))) (pss_one (ps_ret pe_bl)) pss_nil)))
      (pss_one (ps_ret pe_bl)), ?_⟩
    refine ⟨_, rfl, a, rfl, ⟨_, hS⟩, for_list (K := K) (a := a) (xs := ns.map V.int) (fun i σ H' => (∃ v, σ = [some (.ref a), some (.int span), v]) ∧ H' = H ∧ allB (ns.take i) span = true)
      ⟨⟨none, rfl⟩, rfl, rfl⟩ (fun i σ H' _ ⟨_, e, _⟩ => e ▸ hS) ?_ ?_⟩
    · rintro i y σ H' hi ⟨⟨v, rfl⟩, rfl, hb⟩
      obtain ⟨z, hz, rfl⟩ := int_at hi
      refine ⟨_, rfl, z, 0, rfl, rfl, _, rfl, ?_⟩
      by_cases c : z < 0
      · refine ift (decide_eq_true c) ?_
        rw [allB_not hz (by simp [c])] at q
        exact q
      · refine iff_ (decide_eq_false c) ?_
        refine ⟨_, rfl, _, rfl, z, span, rfl, rfl, _, rfl, ?_⟩
        by_cases c2 : span ≤ z
        · refine ift (decide_eq_true c2) ?_
          rw [allB_not hz (by simp [c2])] at q
          exact q
        · refine iff_ (decide_eq_false c2) ?_
          refine ⟨⟨_, rfl⟩, rfl, ?_⟩
          rw [allB_snoc hz, hb]
          simp [c, c2]
    · rintro σ H' ⟨⟨v, rfl⟩, rfl, hb⟩
      rw [List.length_map, List.take_length] at hb
      rw [hb] at q
      exact q
/-! ### masks_in_range -/
def sp_masks_in_range (K : PySem.W.Frag) : Sp := fun vs H Q _ => ∃ (a : Addr) (ns : List Int) (most : Int), vs = [.ref a, .int most] ∧ SqL K H a (ns.map V.int) ∧ Q (.bl (decide ((ns.length : Int) ≤ most) && allB ns 18446744073709551616)) H
theorem sc_masks_in_range : FnScope ["masks", "most"] ["masks", "most"] (defScope s_masks_in_range) := ⟨rfl, rfl, rfl, by decide +kernel, rfl, by decide +kernel, by decide +kernel⟩
theorem ok_masks_in_range {f : Addr} {fd : FuncData} {k : Nat} (T : Txt K mg) (D : Def K mg "masks_in_range" s_masks_in_range ["masks", "most"] f fd) : FnOk P w K mg base CX0 (k + 2) f fd ["masks", "most"] (sp_masks_in_range K) := by
  obtain ⟨fA, fdA, DA⟩ := T.d_all_below
  have GA : FnOk P w K mg base CX0 (k + 1) fA fdA ["numbers", "span"] (sp_all_below K) := ok_all_below DA
  refine D.F.ok sc_masks_in_range (fun vs H Q E h => ?_) (fun cdv A outer s H vs Q E hr h => ?_)
  · obtain ⟨a, ns, most, rfl, _⟩ := h
    rfl
  · obtain ⟨a, ns, most, rfl, hS, q⟩ := h
    refine ⟨_, pss_one (ps_ret (pe_and (pe_cmpR op_le (pe_callB call_len_seq (by rfl) T.m_len PySem.boot_len (pa_cons (pv 0) pa_nil)) (pv 1) (nomark _))
      (pe_one (pe_call GA hr rfl DA.g DA.F.kp DA.b .nil pass0 (pa_cons (pv 0) (pa_cons (pe_gi rfl T.g_LONG_SPAN) pa_nil)))))), ?_⟩
    refine ⟨_, rfl, a, _, rfl, .inl hS, _, rfl, _, _, rfl, rfl, _, rfl, ?_⟩
    rw [List.length_map]
    by_cases c : (ns.length : Int) ≤ most
    · refine ift (decide_eq_true c) ?_
      rw [decide_eq_true c, Bool.true_and] at q
      exact ⟨_, rfl, a, ns, _, rfl, hS, q⟩
    · refine iff_ (decide_eq_false c) ?_
      rw [decide_eq_false c, Bool.false_and] at q
      exact q
/-! ### bits_of -/
def intsN (l : List Nat) : List V := l.map fun (x : Nat) => V.int (x : Int)
theorem nat_at {ns : List Nat} {i : Nat} {y : V} (hi : (intsN ns)[i]? = some y) : ∃ z, ns[i]? = some z ∧ y = V.int (z : Int) := by
  unfold intsN at hi
  rw [List.getElem?_map, Option.map_eq_some_iff] at hi
  obtain ⟨z, h1, h2⟩ := hi
  exact ⟨z, h1, h2.symm⟩
theorem intsN_len (l : List Nat) : (intsN l).length = l.length := List.length_map ..
def sp_bits_of : Sp := fun vs H Q _ => ∃ (m : Nat), vs = [.int (m : Int)] ∧
  ∀ (H' : Hp) (p : Addr), Same H H' → H p = none → H' p = some (.lst (intsN (bitsL m))) → Q (.ref p) H'
theorem sc_bits_of : FnScope ["mask", "bit"] ["mask"] (defScope s_bits_of) := ⟨rfl, rfl, rfl, by decide +kernel, rfl, by decide +kernel, by decide +kernel⟩
theorem bit_is (m i : Nat) : decide (Builtin.bitAnd ((m : Int) / 2 ^ ((0 + (i : Int)).toNat)) 1 = 1) = m.testBit i := by
  have e0 : (0 + (i : Int)).toNat = i := by omega
  have e1 : ((m : Int) / 2 ^ i) = ((m / 2 ^ i : Nat) : Int) := by norm_cast
  rw [e0, e1, PyProof.Rows.bitAnd_pp (Int.natCast_nonneg _) (by decide), Nat.testBit_eq_decide_div_mod_eq]
  have e2 : (((m / 2 ^ i : Nat) : Int).toNat &&& (1 : Int).toNat) = m / 2 ^ i % 2 := by
    rw [Int.toNat_natCast]
    exact Nat.and_one_is_mod _
  rw [e2]
  exact decide_eq_decide.mpr (by omega)
theorem bit_isV (m i : Nat) : decide (V.int (Builtin.bitAnd ((m : Int) / 2 ^ ((0 + (i : Int)).toNat)) 1) = V.int 1) = m.testBit i :=
  (decide_eq_decide.mpr ⟨fun z => V.int.inj z, fun z => congrArg V.int z⟩).trans (bit_is m i)
theorem ok_bits_of {f : Addr} {fd : FuncData} {k : Nat} (T : Txt K mg) (D : Def K mg "bits_of" s_bits_of ["mask"] f fd) : FnOk P w K mg base CX0 (k + 1) f fd ["mask"] sp_bits_of := by
  refine D.F.ok sc_bits_of (fun vs H Q E h => ?_) (fun cdv A outer s H vs Q E hr h => ?_)
  · obtain ⟨m, rfl, _⟩ := h
    rfl
  · obtain ⟨m, rfl, q⟩ := h
    refine ⟨_, pss_one (ps_ret (pe_lc (own := [("bit", 1)]) (g := gName 1) rfl sc_bits_of.nd (pi_range1 rfl T.m_range (pa_cons (pe_gi rfl T.g_SLOTS) pa_nil)) (blkOk_by (N := ["mask", "bit"]) (sc := defScope s_bits_of) (by decide +kernel))
          (fun _ _ _ _ _ => pg_name (i := 1) sc_bits_of.nd rfl (Or.inl rfl)) (fun _ _ _ _ _ => pts_one (pt_cmpR op_eq (pe_op op_and (pe_op op_shr (pv 0) (pv 1)) pe_int) pe_int (nomark _)))
          (fun _ _ _ _ _ => pv 1))), ?_⟩
    refine ⟨64, rfl, by decide, by decide, fun B hB => ?_⟩
    refine lc_range (lo := 0) (n := 64) (fun i H' => Same H H' ∧ H' B = some (.lst (intsN (bitsTo m i)))) ⟨new_same hB, upd_same⟩ ?_ ?_
    · rintro i H' hi ⟨sm, eB⟩
      refine ⟨rfl, _, rfl, _, rfl, _, _, rfl, rfl, by omega, _, 1, rfl, rfl, rfl, _, rfl, ?_⟩
      have hb := bit_isV m i
      cases z : m.testBit i with
      | false =>
        refine iff_ (hb.trans z) ⟨sm, ?_⟩
        rw [bitsTo_succ, z]
        simpa using eB
      | true =>
        refine ift (hb.trans z) ⟨_, rfl, _, eB, ?_, grow_same hB sm, ?_⟩
        · have := bitsTo_len m i
          unfold intsN
          rw [List.length_map]
          exact Nat.lt_of_lt_of_le (show (bitsTo m i).length < 100 by omega) (by decide)
        · rw [upd_same, bitsTo_succ, z]
          unfold intsN
          rw [if_pos rfl, List.map_append]
          simp
    · rintro H' ⟨sm, eB⟩
      exact q H' B sm hB eB
/-! ### longest_row -/
def sp_longest_row (K : PySem.W.Frag) : Sp := fun vs H Q _ => ∃ (a : Addr) (ns : List Nat), vs = [.ref a] ∧ SqL K H a (intsN ns) ∧
  ∀ (H' : Hp) (p : Addr), Same H H' → H p = none → H' p = some (.lst [.int (lrF (natV ns)).1, .int (lrF (natV ns)).2.1]) → Q (.ref p) H'
theorem sc_longest_row : FnScope ["slots", "longest_begin", "longest", "length", "last", "slot"] ["slots"] (defScope s_longest_row) := ⟨rfl, rfl, rfl, by decide +kernel, rfl, by decide +kernel, by decide +kernel⟩
theorem natV_snoc {ns : List Nat} {i x : Nat} (h : ns[i]? = some x) : natV (ns.take (i + 1)) = natV (ns.take i) ++ [(x : Int)] := by
  unfold natV
  rw [take_snoc h, List.map_append]
  rfl
theorem ok_longest_row {f : Addr} {fd : FuncData} {k : Nat} (D : Def K mg "longest_row" s_longest_row ["slots"] f fd) : FnOk P w K mg base CX0 (k + 1) f fd ["slots"] (sp_longest_row K) := by
  refine D.F.ok sc_longest_row (fun vs H Q E h => ?_) (fun cdv A outer s H vs Q E hr h => ?_)
  · obtain ⟨a, ns, rfl, _⟩ := h
    rfl
  · obtain ⟨a, ns, rfl, hS, q⟩ := h
    have nd := sc_longest_row.nd
    refine ⟨_, pss_cons (ps_set (i := 1) nd rfl (.inl rfl) pe_int) (pss_cons (ps_set (i := 2) nd rfl (.inl rfl) pe_int) (pss_cons (ps_set (i := 3) nd rfl (.inl rfl) pe_int)
      (pss_cons (ps_set (i := 4) nd rfl (.inl rfl) (pe_un un_neg pe_int))
      (pss_cons (ps_for PassesOwn.never rfl (pi_list (pv 0)) (pg_name (i := 5) nd rfl (.inl rfl))
        (pss_cons (ps_set (i := 3) nd rfl (.inl rfl) (pe_ifExp (pt_cmpR op_eq (pv 5) (pe_op op_add (pv 4) pe_int) (nomark _)) (pe_op op_add (pv 3) pe_int) pe_int))
        (pss_cons (ps_if (pt_cmpR op_gt (pv 3) (pv 2) (nomark _))
            (pss_cons (ps_set (i := 1) nd rfl (.inl rfl) (pe_op op_add (pe_op op_sub (pv 5) (pv 3)) pe_int)) (pss_one (ps_set (i := 2) nd rfl (.inl rfl) (pv 3)))) pss_nil)
        (pss_one (ps_set (i := 4) nd rfl (.inl rfl) (pv 5))))))
      (pss_one (ps_ret (pe_lst (pa_cons (pv 1) (pa_cons (pv 2) pa_nil))))))))), ?_⟩
    refine ⟨1, rfl, ?_⟩
    refine ⟨_, rfl, a, rfl, ⟨_, hS⟩, for_list (K := K) (a := a) (xs := intsN ns) (fun i σ H' => (∃ (r : Lr) (v5 : Option V), r = lrF (natV (ns.take i)) ∧ σ = [some (.ref a), some (.int r.1), some (.int r.2.1), some (.int r.2.2.1), some (.int r.2.2.2), v5]) ∧ H' = H)
      ⟨⟨(0, 0, 0, -1), none, rfl, rfl⟩, rfl⟩ (fun i σ H' _ ⟨_, e⟩ => e ▸ hS) ?_ ?_⟩
    · rintro i y σ H' hi ⟨⟨r, v5, er, rfl⟩, rfl⟩
      obtain ⟨x, hx, rfl⟩ := nat_at hi
      have step : lrF (natV (ns.take (i + 1))) = lrStep r (x : Int) := by rw [natV_snoc hx, lrF_snoc, er]
      refine ⟨_, rfl, _, rfl, r.2.2.2, 1, rfl, rfl, rfl, _, rfl, ?_⟩
      by_cases c : (x : Int) = r.2.2.2 + 1
      · refine ift (decide_eq_true (congrArg V.int c)) ?_
        refine ⟨_, rfl, r.2.2.1, 1, rfl, rfl, ?_⟩
        refine ⟨_, rfl, _, rfl, r.2.2.1 + 1, r.2.1, rfl, rfl, _, rfl, ?_⟩
        by_cases d : r.2.1 < r.2.2.1 + 1
        · refine ift (decide_eq_true d) ?_
          refine ⟨_, rfl, _, rfl, _, _, rfl, rfl, _, _, rfl, rfl, _, rfl, _, rfl, ⟨lrStep r (x : Int), some (.int (x : Int)), step.symm, ?_⟩, rfl⟩
          unfold lrStep
          rw [if_pos c]
          simp only [if_pos d]
          rfl
        · refine iff_ (decide_eq_false d) ?_
          refine ⟨_, rfl, ⟨lrStep r (x : Int), some (.int (x : Int)), step.symm, ?_⟩, rfl⟩
          unfold lrStep
          rw [if_pos c]
          simp only [if_neg d]
          rfl
      · refine iff_ (decide_eq_false fun z => c (V.int.inj z)) ?_
        refine ⟨_, rfl, _, rfl, 1, r.2.1, rfl, rfl, _, rfl, ?_⟩
        by_cases d : r.2.1 < 1
        · refine ift (decide_eq_true d) ?_
          refine ⟨_, rfl, _, rfl, _, _, rfl, rfl, _, _, rfl, rfl, _, rfl, _, rfl, ⟨lrStep r (x : Int), some (.int (x : Int)), step.symm, ?_⟩, rfl⟩
          unfold lrStep
          rw [if_neg c]
          simp only [if_pos d]
          rfl
        · refine iff_ (decide_eq_false d) ?_
          refine ⟨_, rfl, ⟨lrStep r (x : Int), some (.int (x : Int)), step.symm, ?_⟩, rfl⟩
          unfold lrStep
          rw [if_neg c]
          simp only [if_neg d]
          rfl
    · rintro σ H' ⟨⟨r, v5, er, rfl⟩, rfl⟩
      rw [intsN_len, List.take_length] at er
      refine ⟨_, rfl, _, rfl, (by show 2 ≤ sizeLine; decide), fun p hp => q _ p (new_same hp) hp ?_⟩
      rw [upd_same, er]
/-! ### facts_of -/
def sp_facts_of : Sp := fun vs H Q _ => ∃ (m : Nat), vs = [.int (m : Int)] ∧
  ∀ (H' : Hp) (p : Addr), Same H H' → H p = none → H' p = some (.lst ((factsV m).map V.int)) → Q (.ref p) H'
theorem sc_facts_of : FnScope ["mask", "slots"] ["mask"] (defScope s_facts_of) := ⟨rfl, rfl, rfl, by decide +kernel, rfl, by decide +kernel, by decide +kernel⟩
theorem old_none {H H' : Hp} {p : Addr} (s : Same H H') (h : H' p = none) : H p = none := by
  cases e : H p with
  | none => rfl
  | some o => rw [s _ _ e] at h; cases h
theorem atI_end {α : Type} {xs : List α} {v : α} (h : xs[xs.length - 1]? = some v) (h0 : 0 < xs.length) : atI xs (-1) = some v := by
  unfold atI ixN
  rw [if_neg (by decide), if_pos (by omega)]
  show xs[((-1 : Int) + (xs.length : Int)).toNat]? = some v
  have e : ((-1 : Int) + (xs.length : Int)).toNat = xs.length - 1 := by omega
  rw [e, h]
theorem ok_facts_of {f : Addr} {fd : FuncData} {k : Nat} (T : Txt K mg) (D : Def K mg "facts_of" s_facts_of ["mask"] f fd) : FnOk P w K mg base CX0 (k + 2) f fd ["mask"] sp_facts_of := by
  obtain ⟨f1, fd1, D1⟩ := T.d_bits_of
  obtain ⟨f2, fd2, D2⟩ := T.d_longest_row
  have G1 : FnOk P w K mg base CX0 (k + 1) f1 fd1 ["mask"] sp_bits_of := ok_bits_of T D1
  have G2 : FnOk P w K mg base CX0 (k + 1) f2 fd2 ["slots"] (sp_longest_row K) := ok_longest_row D2
  refine D.F.ok sc_facts_of (fun vs H Q E h => ?_) (fun cdv A outer s H vs Q E hr h => ?_)
  · obtain ⟨m, rfl, _⟩ := h
    rfl
  · obtain ⟨m, rfl, q⟩ := h
    have nd := sc_facts_of.nd
    refine ⟨_, pss_cons (ps_set (i := 1) nd rfl (.inl rfl) (pe_call G1 hr rfl D1.g D1.F.kp D1.b .nil pass0 (pa_cons (pv 0) pa_nil)))
      (pss_cons (ps_if (pt_not (pt_truth (pv 1) (by intro _; rfl))) (pss_one (ps_ret (pe_lst (pa_cons pe_int (pa_cons (pe_gi rfl T.g_SLOTS) (pa_cons (pe_gi rfl T.g_SLOTS) (pa_cons pe_int (pa_cons pe_int pa_nil)))))))) pss_nil)
      (pss_one (ps_ret (pe_op op_cat (pe_lst (pa_cons (pe_callB call_len_seq (by rfl) T.m_len PySem.boot_len (pa_cons (pv 1) pa_nil)) (pa_cons (pe_ix ix_list (pv 1) pe_int (fun _ _ => rfl)) (pa_cons (pe_ix ix_list (pv 1) (pe_un un_neg pe_int) (fun _ _ => rfl)) pa_nil))))
        (pe_call G2 hr rfl D2.g D2.F.kp D2.b .nil pass0 (pa_cons (pv 1) pa_nil)))))), ?_⟩
    refine ⟨_, rfl, m, rfl, fun H1 p1 s1 n1 e1 => ?_⟩
    refine ⟨_, rfl, _, .inl ⟨_, SqL.of e1, rfl⟩, ?_⟩
    cases eb : bitsL m with
    | nil =>
      refine ift (by rfl) ?_
      refine ⟨(by show 5 ≤ sizeLine; decide), fun p hp => q _ p (s1.trans (new_same hp)) (old_none s1 hp) ?_⟩
      rw [upd_same, factsV_nil eb]
      rfl
    | cons b0 br =>
      refine iff_ (by rfl) ?_
      have hl : 0 < (bitsL m).length := by rw [eb]; simp
      have h0 : (bitsL m)[0]? = some ((bitsL m)[0]) := List.getElem?_eq_getElem hl
      have h1 : (bitsL m)[(bitsL m).length - 1]? = some ((bitsL m)[(bitsL m).length - 1]) := List.getElem?_eq_getElem (by omega)
      have S1 : SqL K H1 p1 (intsN (bitsL m)) := SqL.of e1
      have a0 : atI (intsN (bitsL m)) 0 = some (.int ((bitsL m)[0] : Int)) := atI_nat (j := 0) (by unfold intsN; rw [List.getElem?_map, h0]; rfl)
      have a1 : atI (intsN (bitsL m)) (-1) = some (.int ((bitsL m)[(bitsL m).length - 1] : Int)) := atI_end (by rw [intsN_len]; unfold intsN; rw [List.getElem?_map, h1]; rfl) (by rw [intsN_len]; exact hl)
      refine ⟨_, rfl, p1, _, rfl, .inl S1, _, rfl, p1, _, _, _, rfl, rfl, S1, a0, _, rfl, 1, rfl, p1, _, _, _, rfl, rfl, S1, a1, (by show 3 ≤ sizeLine; decide), fun c hc => ?_⟩
      have e1' := (new_same (o := .lst [V.int (((intsN (bitsL m)).length : Nat) : Int), V.int ((bitsL m)[0] : Int), V.int ((bitsL m)[(bitsL m).length - 1] : Int)]) hc) _ _ e1
      refine ⟨_, rfl, p1, bitsL m, rfl, SqL.of e1', fun H2 p2 s2 n2 e2 => ?_⟩
      refine ⟨c, p2, _, _, rfl, rfl, s2 _ _ upd_same, e2, (by show 3 + 2 ≤ sizeLine; decide), fun p hp => ?_⟩
      have s12 : Same H H2 := (s1.trans (new_same hc)).trans s2
      refine q _ p (s12.trans (new_same hp)) (old_none s12 hp) ?_
      rw [upd_same, factsV_some h0 h1, intsN_len]
      rfl
/-! ### np_facts -/
def sp_np_facts (K : PySem.W.Frag) : Sp := fun vs H Q _ => ∃ (a : Addr) (ns : List Int), vs = [.ref a] ∧ SqL K H a (ns.map V.int) ∧ ns.length ≤ 1027 ∧ (∀ x ∈ ns, 0 ≤ x ∧ x ≤ 18446744073709551615) ∧
  ∀ (H' : Hp) (p : Addr), H' p = some (.lst ((PySh73.np_facts ns).map V.int)) → Q (.ref p) H'
theorem sc_np_facts : FnScope ["l", "answer", "mask"] ["l"] (defScope s_np_facts) := ⟨rfl, rfl, rfl, by decide +kernel, rfl, by decide +kernel, by decide +kernel⟩
theorem facts_len (l : List Int) : (l.flatMap fun x => factsV x.toNat).length = 5 * l.length := by
  induction l with
  | nil => rfl
  | cons x l ih =>
    rw [List.flatMap_cons, List.length_append, ih, List.length_cons]
    show 5 + 5 * l.length = _
    omega
theorem ok_np_facts {f : Addr} {fd : FuncData} (T : Txt K mg) (D : Def K mg "np_facts" s_np_facts ["l"] f fd) : FnOk P w K mg base CX0 3 f fd ["l"] (sp_np_facts K) := by
  obtain ⟨f1, fd1, D1⟩ := T.d_masks_in_range
  obtain ⟨f2, fd2, D2⟩ := T.d_facts_of
  have G1 : FnOk P w K mg base CX0 2 f1 fd1 ["masks", "most"] (sp_masks_in_range K) := ok_masks_in_range T D1
  have G2 : FnOk P w K mg base CX0 2 f2 fd2 ["mask"] sp_facts_of := ok_facts_of T D2
  refine D.F.ok sc_np_facts (fun vs H Q E h => ?_) (fun cdv A outer s H vs Q E hr h => ?_)
  · obtain ⟨a, ns, rfl, _⟩ := h
    rfl
  · obtain ⟨a, ns, rfl, hS, hlen, hb, q⟩ := h
    have nd := sc_np_facts.nd
    refine ⟨_, pss_cons (ps_if (pt_not (pt_val (pe_call G1 hr rfl D1.g D1.F.kp D1.b .nil pass0 (pa_cons (pv 0) (pa_cons (pe_gi rfl T.g_MOST_MASKS) pa_nil))))) (pss_one (ps_ret (pe_lst (pa_cons (pe_gi rfl T.g_OUT_OF_RANGE) pa_nil)))) pss_nil)
      (pss_cons (ps_set (i := 1) nd rfl (.inl rfl) (pe_lst (pa_cons pe_int pa_nil)))
      (pss_cons (ps_for PassesOwn.never rfl (pi_list (pv 0)) (pg_name (i := 2) nd rfl (.inl rfl))
        (pss_one (ps_expr (pe_bm PySem.F.plainAttrs_list PySem.F.slot_list_extend PySem.F.type_list_extend mt_extend (pv 1) (pa_cons (pe_call G2 hr rfl D2.g D2.F.kp D2.b .nil pass0 (pa_cons (pv 2) pa_nil)) pa_nil)))))
      (pss_one (ps_ret (pv 1))))), ?_⟩
    have fin : ∀ H1, ∀ p, H1 p = some (.lst ((factsP ns).map V.int)) → Q (.ref p) H1 := fun H1 p e => q H1 p (by rw [← facts_ok ns]; exact e)
    have hall : allB ns 18446744073709551616 = true := allB_true fun x hx => by have := hb x hx; omega
    refine ⟨_, rfl, a, ns, _, rfl, hS, _, rfl, ?_⟩
    rw [hall, Bool.and_true]
    by_cases c : (ns.length : Int) ≤ 1024
    · rw [decide_eq_true c]
      refine iff_ rfl ?_
      refine ⟨(by show 1 ≤ sizeLine; decide), fun z hz => ?_⟩
      have s1 : Same H (upd H z (.lst [.int 0])) := new_same hz
      refine ⟨_, rfl, a, rfl, ⟨_, s1.seq hS⟩, for_list (K := K) (a := a) (xs := ns.map V.int) (fun i σ H' => (∃ v2, σ = [some (.ref a), some (.ref z), v2]) ∧ Same H H' ∧ H' z = some (.lst ((0 :: ((ns.take i).flatMap fun x => factsV x.toNat)).map V.int)))
        ⟨⟨none, rfl⟩, s1, upd_same⟩ (fun i σ H' _ ⟨_, e, _⟩ => e.seq hS) ?_ ?_⟩
      · rintro i y σ H' hi ⟨⟨v2, rfl⟩, sm, ez⟩
        obtain ⟨x, hx, rfl⟩ := int_at hi
        have hx' := hb x (List.mem_of_getElem? hx)
        have ex : x = ((x.toNat : Nat) : Int) := by omega
        refine ⟨_, rfl, .inl ⟨rfl, _, SqL.of ez⟩, _, rfl, x.toNat, congrArg (fun u => [V.int u]) ex, fun H1 p t1 n1 e1 => ?_⟩
        refine ⟨z, p, _, _, rfl, rfl, t1 _ _ ez, e1, ?_, ⟨_, rfl⟩, grow_same hz (sm.trans t1), ?_⟩
        · rw [List.length_map, List.length_map, List.length_cons, facts_len, List.length_take]
          show 5 * min i ns.length + 1 + 5 ≤ sizeLine
          exact Nat.le_trans (show _ ≤ 10000 by omega) (by decide)
        · rw [upd_same, take_snoc hx, List.flatMap_append, ← List.map_append]
          simp
      · rintro σ H' ⟨⟨v2, rfl⟩, sm, ez⟩
        rw [List.length_map, List.take_length] at ez
        refine ⟨_, rfl, fin _ z ?_⟩
        rw [ez, factsP, if_neg (by omega)]
    · rw [decide_eq_false c]
      refine ift rfl ?_
      refine ⟨(by show 1 ≤ sizeLine; decide), fun p hp => fin _ p ?_⟩
      rw [upd_same, factsP, if_pos (by omega)]
      rfl
end
theorem all_mk {P : Program} {w : World} {K : PySem.W.Frag} {h : Heap} {mg : Str → Option Value} {fa f0 f1 f2 f3 f4 f5 : Addr} (X : K.In h) (G : h.Ns mainGlobals mg) (hfa : mg "np_facts" = some (.ref fa))
    {od0 an0 od1 an1 od2 an2 od3 an3 od4 an4 od5 an5 : Option Addr} {sl0 sl1 sl2 sl3 sl4 sl5 : Array (Option Value)} {oc0 kV0 dc0 pm0 cd0 ct0 oc1 kV1 dc1 pm1 cd1 ct1 oc2 kV2 dc2 pm2 cd2 ct2 oc3 kV3 dc3 pm3 cd3 ct3 oc4 kV4 dc4 pm4 cd4 ct4 oc5 kV5 dc5 pm5 cd5 ct5 : Value}
    {t_OUT_OF_RANGE t_SLOTS t_LONG_SPAN t_MOST_MASKS : Tok}
    (g_OUT_OF_RANGE : PySem.W.nsIn K mainGlobals "OUT_OF_RANGE" = some (some (.int (-2) t_OUT_OF_RANGE)))
    (g_SLOTS : PySem.W.nsIn K mainGlobals "SLOTS" = some (some (.int 64 t_SLOTS)))
    (g_LONG_SPAN : PySem.W.nsIn K mainGlobals "LONG_SPAN" = some (some (.int 18446744073709551616 t_LONG_SPAN)))
    (g_MOST_MASKS : PySem.W.nsIn K mainGlobals "MOST_MASKS" = some (some (.int 1024 t_MOST_MASKS)))
    (m_len : PySem.W.nsIn K mainGlobals "len" = some none)
    (m_range : PySem.W.nsIn K mainGlobals "range" = some none)
    (a0 : PySem.W.nsIn K mainGlobals "all_below" = some (some (.ref f0))) (l0 : K.lookup f0 = some ⟨oc0, od0, .func (PySem.W.fnOf "all_below" "all_below" (defArgs s_all_below) (defBody s_all_below) (defScope s_all_below) .none kV0 dc0 pm0 an0 cd0 ct0), sl0⟩) (c0 : PySem.W.codeIn K cd0 "all_below" = true) (k0 : PySem.W.keepIn K (.ref f0) = true)
    (a1 : PySem.W.nsIn K mainGlobals "masks_in_range" = some (some (.ref f1))) (l1 : K.lookup f1 = some ⟨oc1, od1, .func (PySem.W.fnOf "masks_in_range" "masks_in_range" (defArgs s_masks_in_range) (defBody s_masks_in_range) (defScope s_masks_in_range) .none kV1 dc1 pm1 an1 cd1 ct1), sl1⟩) (c1 : PySem.W.codeIn K cd1 "masks_in_range" = true) (k1 : PySem.W.keepIn K (.ref f1) = true)
    (a2 : PySem.W.nsIn K mainGlobals "bits_of" = some (some (.ref f2))) (l2 : K.lookup f2 = some ⟨oc2, od2, .func (PySem.W.fnOf "bits_of" "bits_of" (defArgs s_bits_of) (defBody s_bits_of) (defScope s_bits_of) .none kV2 dc2 pm2 an2 cd2 ct2), sl2⟩) (c2 : PySem.W.codeIn K cd2 "bits_of" = true) (k2 : PySem.W.keepIn K (.ref f2) = true)
    (a3 : PySem.W.nsIn K mainGlobals "longest_row" = some (some (.ref f3))) (l3 : K.lookup f3 = some ⟨oc3, od3, .func (PySem.W.fnOf "longest_row" "longest_row" (defArgs s_longest_row) (defBody s_longest_row) (defScope s_longest_row) .none kV3 dc3 pm3 an3 cd3 ct3), sl3⟩) (c3 : PySem.W.codeIn K cd3 "longest_row" = true) (k3 : PySem.W.keepIn K (.ref f3) = true)
    (a4 : PySem.W.nsIn K mainGlobals "facts_of" = some (some (.ref f4))) (l4 : K.lookup f4 = some ⟨oc4, od4, .func (PySem.W.fnOf "facts_of" "facts_of" (defArgs s_facts_of) (defBody s_facts_of) (defScope s_facts_of) .none kV4 dc4 pm4 an4 cd4 ct4), sl4⟩) (c4 : PySem.W.codeIn K cd4 "facts_of" = true) (k4 : PySem.W.keepIn K (.ref f4) = true)
    (a5 : PySem.W.nsIn K mainGlobals "np_facts" = some (some (.ref f5))) (l5 : K.lookup f5 = some ⟨oc5, od5, .func (PySem.W.fnOf "np_facts" "np_facts" (defArgs s_np_facts) (defBody s_np_facts) (defScope s_np_facts) .none kV5 dc5 pm5 an5 cd5 ct5), sl5⟩) (c5 : PySem.W.codeIn K cd5 "np_facts" = true) (k5 : PySem.W.keepIn K (.ref f5) = true) :
    ∃ fd : FuncData, (∀ (s : Shared) (us : List Value), us.length = (["l"] : List Str).length → BindsTo s fd ⟨us, []⟩ ((["l"] : List Str).zip us)) ∧ ∀ base : Heap, K.In base → base.Ns mainGlobals mg → FnOk P w K mg base CX0 3 fa fd ["l"] (sp_np_facts K) := by
  have e := hfa.symm.trans (PySem.W.mg_of X G a5)
  cases e
  have F0 := fun_mk (st := s_all_below) l0 c0 k0
  have b0 := F0.binds (ps := ["numbers", "span"]) fun _ _ _ _ _ _ us hl => match us, hl with | [_, _], _ => rfl
  have F1 := fun_mk (st := s_masks_in_range) l1 c1 k1
  have b1 := F1.binds (ps := ["masks", "most"]) fun _ _ _ _ _ _ us hl => match us, hl with | [_, _], _ => rfl
  have F2 := fun_mk (st := s_bits_of) l2 c2 k2
  have b2 := F2.binds (ps := ["mask"]) fun _ _ _ _ _ _ us hl => match us, hl with | [_], _ => rfl
  have F3 := fun_mk (st := s_longest_row) l3 c3 k3
  have b3 := F3.binds (ps := ["slots"]) fun _ _ _ _ _ _ us hl => match us, hl with | [_], _ => rfl
  have F4 := fun_mk (st := s_facts_of) l4 c4 k4
  have b4 := F4.binds (ps := ["mask"]) fun _ _ _ _ _ _ us hl => match us, hl with | [_], _ => rfl
  have F5 := fun_mk (st := s_np_facts) l5 c5 k5
  have b5 := F5.binds (ps := ["l"]) fun _ _ _ _ _ _ us hl => match us, hl with | [_], _ => rfl
  have T : Txt K mg := ⟨⟨_, PySem.W.mg_of X G g_OUT_OF_RANGE⟩, ⟨_, PySem.W.mg_of X G g_SLOTS⟩, ⟨_, PySem.W.mg_of X G g_LONG_SPAN⟩, ⟨_, PySem.W.mg_of X G g_MOST_MASKS⟩, PySem.W.mg_none_of X G m_len, PySem.W.mg_none_of X G m_range, ⟨_, _, F0, b0, PySem.W.mg_of X G a0⟩, ⟨_, _, F1, b1, PySem.W.mg_of X G a1⟩, ⟨_, _, F2, b2, PySem.W.mg_of X G a2⟩, ⟨_, _, F3, b3, PySem.W.mg_of X G a3⟩, ⟨_, _, F4, b4, PySem.W.mg_of X G a4⟩⟩
  exact ⟨PySem.W.fnOf "np_facts" "np_facts" (defArgs s_np_facts) (defBody s_np_facts) (defScope s_np_facts) .none kV5 dc5 pm5 an5 cd5 ct5, fun s us hu => match us, hu with | [_], _ => .of_eq rfl, fun base _ _ => ok_np_facts T ⟨F5, b5, PySem.W.mg_of X G a5⟩⟩
end NP
open PySem PySem.W PyProof.Rows
set_option maxRecDepth 100000 in
set_option maxHeartbeats 8000000 in
theorem PySem.Challenge.cw_nightplan_s03_np_facts_holds : PySem.Challenge.rw_nightplan_s03_np_facts.Holds := by
  w_on; k_headS; (case hw => exact ⟨[.list []], by decide +kernel, by decide +kernel⟩)
  k_fillS
  refine L2.walk_specK (r := PySem.Challenge.rw_nightplan_s03_np_facts) (k := 3) (CX := L2.CX0) (ps := ["l"]) (sp := NP.sp_np_facts) (by decide +kernel) rfl rfl ⟨rfl, by decide, by decide⟩ (fun w h Y => PySem.W.kIn_of Y) ?F ?S (fun _ _ _ _ z => z)
  case F =>
    intro w mg fa h Y KX G hmg
    refine' NP.all_mk KX G hmg ?g_OUT_OF_RANGE ?g_SLOTS ?g_LONG_SPAN ?g_MOST_MASKS ?m_len ?m_range ?a0 ?l0 ?c0 ?k0 ?a1 ?l1 ?c1 ?k1 ?a2 ?l2 ?c2 ?k2 ?a3 ?l3 ?c3 ?k3 ?a4 ?l4 ?c4 ?k4 ?a5 ?l5 ?c5 ?k5
    (case g_OUT_OF_RANGE => k_is)
    (case g_SLOTS => k_is)
    (case g_LONG_SPAN => k_is)
    (case g_MOST_MASKS => k_is)
    (case m_len => k_is)
    (case m_range => k_is)
    (case a0 => k_is)
    (case l0 => k_is)
    (case c0 => k_is)
    (case k0 => k_is)
    (case a1 => k_is)
    (case l1 => k_is)
    (case c1 => k_is)
    (case k1 => k_is)
    (case a2 => k_is)
    (case l2 => k_is)
    (case c2 => k_is)
    (case k2 => k_is)
    (case a3 => k_is)
    (case l3 => k_is)
    (case c3 => k_is)
    (case k3 => k_is)
    (case a4 => k_is)
    (case l4 => k_is)
    (case c4 => k_is)
    (case k4 => k_is)
    (case a5 => k_is)
    (case l5 => k_is)
    (case c5 => k_is)
    (case k5 => k_is)
  case S =>
    intro K H xs a hO hwi hask hx
    obtain ⟨l, u⟩ := a
    cases hx with
    | cons h3 h4 =>
      cases h4
      cases h3 with
      | lst hs ha =>
        have e := L2.ints_dw l _ ha
        subst e
        have q : ((Codec.inLen 0 1027 l && l.all (Codec.inInt 0 18446744073709551615)) && true) = true := hwi
        rw [Bool.and_eq_true, Bool.and_eq_true, List.all_eq_true] at q
        exact ⟨_, l, rfl, hs, (Codec.inNat_iff.mp q.1.1).2, fun x hx => Codec.inInt_iff.mp (q.1.2 x hx), fun H' p hp => .lst (L2.SqL.of hp) (L2.dw_ints _)⟩
#print axioms PySem.Challenge.cw_nightplan_s03_np_facts_holds

import PyProof.Rows.All
import Wide.All
import OpenK.AllK
import Wide.FinOn
import Open.SpecLaws
import KE.OsGo
import HandS.Base
import HandS.Call
import HandS.List
import HandS.Comp
import HandS.Ends
import HandS.Spec
import HandS.Words
import HandS.Iter
import HandS.Text
import HandS.Walk
import PySem.Challenge.RW_nightplan_s04_np_crowd
set_option Elab.async false
set_option maxRecDepth 100000
set_option maxHeartbeats 2000000
namespace NP
section
open Sh73
/-! ### masks -/
theorem ofBits_fold (f : Nat → Bool) : ∀ n : Nat, let r := (List.range n).foldl (fun (a : Nat) (i : Nat) => if f i = true then a + 2 ^ i else a) 0
    r < 2 ^ n ∧ ∀ i, r.testBit i = (decide (i < n) && f i)
  | 0 => ⟨Nat.zero_lt_one, fun i => by simp⟩
  | n + 1 => by
    have ih := ofBits_fold f n
    simp only at ih ⊢
    rw [List.range_succ, List.foldl_append]
    generalize (List.range n).foldl (fun (a : Nat) (i : Nat) => if f i = true then a + 2 ^ i else a) 0 = r at ih ⊢
    obtain ⟨h1, h2⟩ := ih
    simp only [List.foldl_cons, List.foldl_nil]
    have hp : 2 ^ (n + 1) = 2 ^ n + 2 ^ n := by rw [Nat.pow_succ]; omega
    cases hf : f n with
    | false =>
      simp only [Bool.false_eq_true, if_false]
      refine ⟨by omega, fun i => ?_⟩
      rw [h2]
      by_cases hi : i = n
      · subst hi
        simp [hf]
      · have : decide (i < n + 1) = decide (i < n) := decide_eq_decide.mpr (by omega)
        rw [this]
    | true =>
      simp only [if_true]
      refine ⟨by omega, fun i => ?_⟩
      rw [Nat.add_comm]
      by_cases hi : i = n
      · subst hi
        rw [Nat.testBit_two_pow_add_eq, h2]
        simp [hf]
      · by_cases hlt : i < n
        · rw [Nat.testBit_two_pow_add_gt hlt, h2]
          have : decide (i < n + 1) = decide (i < n) := decide_eq_decide.mpr (by omega)
          rw [this]
        · have hb : 2 ^ n + r < 2 ^ i := by
            have : 2 ^ (n + 1) ≤ 2 ^ i := Nat.pow_le_pow_right (by decide) (by omega)
            omega
          rw [Nat.testBit_lt_two_pow hb]
          have : decide (i < n + 1) = false := decide_eq_false (by omega)
          rw [this]
          rfl
theorem ofBits_lt (f : Nat → Bool) : ofBits f < 2 ^ 64 := (ofBits_fold f 64).1
theorem ofBits_bit (f : Nat → Bool) (i : Nat) : (ofBits f).testBit i = (decide (i < 64) && f i) := (ofBits_fold f 64).2 i
/-! ### starts -/
def stN (m : Nat) : Nat → Nat
  | 0 => 18446744073709551615
  | j + 1 => stN m j &&& (m >>> j)
theorem stN_bit (m : Nat) : ∀ d i : Nat, (stN m d).testBit i = (decide (i < 64) && (List.range d).all fun j => m.testBit (i + j))
  | 0, i => by
    show Nat.testBit (2 ^ 64 - 1) i = _
    rw [Nat.testBit_two_pow_sub_one]
    simp
  | d + 1, i => by
    show (stN m d &&& (m >>> d)).testBit i = _
    rw [Nat.testBit_and, stN_bit m d i, Nat.testBit_shiftRight, List.range_succ, List.all_append, Nat.add_comm d i]
    simp [Bool.and_assoc]
theorem bit_big {m i : Nat} (h : m < 2 ^ 64) (hi : 64 ≤ i) : m.testBit i = false :=
  Nat.testBit_lt_two_pow (Nat.lt_of_lt_of_le h (Nat.pow_le_pow_right (by decide) hi))
theorem starts_is {m : Nat} (h : m < 2 ^ 64) (d : Nat) : starts d m = stN m d := by
  refine Nat.eq_of_testBit_eq fun i => ?_
  unfold starts
  rw [ofBits_bit, stN_bit]
  unfold has
  by_cases hi : i < 64
  · by_cases hd : i + d ≤ 64
    · simp [hi, hd, SLOTS]
    · have h1 : decide (i + d ≤ SLOTS) = false := decide_eq_false hd
      rw [h1, Bool.false_and, Bool.and_false]
      have h2 : (List.range d).all (fun j => m.testBit (i + j)) = false := by
        rw [List.all_eq_false]
        exact ⟨d - 1, List.mem_range.mpr (by omega), by rw [bit_big h (by omega)]; decide⟩
      rw [h2, Bool.and_false]
  · simp [hi]
theorem stN_lt (m : Nat) : ∀ d, stN m d < 2 ^ 64
  | 0 => by show 18446744073709551615 < 2 ^ 64; decide
  | d + 1 => Nat.lt_of_le_of_lt Nat.and_le_left (stN_lt m d)
end
end NP
/-! ### words that every def's proof uses -/
namespace NP
open PySem PySem.Spec PyProof.Rows L2
open PySem.W (Codec)
theorem ift {c : Bool} {A B : Prop} (hc : c = true) (h : A) : if c = true then A else B := by
  subst hc
  exact h
theorem iff_ {c : Bool} {A B : Prop} (hc : c = false) (h : B) : if c = true then A else B := by
  subst hc
  exact h
theorem take_snoc {α : Type} {l : List α} {i : Nat} {x : α} (h : l[i]? = some x) : l.take (i + 1) = l.take i ++ [x] := by
  rw [List.take_add_one, h]
  rfl
theorem int_at {ns : List Int} {i : Nat} {y : V} (hi : (ns.map V.int)[i]? = some y) : ∃ z, ns[i]? = some z ∧ y = V.int z := by
  rw [List.getElem?_map, Option.map_eq_some_iff] at hi
  obtain ⟨z, h1, h2⟩ := hi
  exact ⟨z, h1, h2.symm⟩
theorem new_same {H : Hp} {p : Addr} {o : HO} (h : H p = none) : Same H (upd H p o) := fun _ _ e => (upd_ne (ne_of_none e h)).trans e
/-- a list that grows at a place that was new stays apart from what stood -/
theorem grow_same {H H' : Hp} {D : Addr} {o : HO} (hD : H D = none) (s : Same H H') : Same H (upd H' D o) := fun b x e => (upd_ne (ne_of_none e hD)).trans (s b x e)
theorem pe_gi {X : Cx} {x : Str} {i : Int} {pos : Pos} (hg : Gl X x) (hm : ∃ t, X.mg x = some (.int i t)) (hd : (x == ("__debug__" : Str)) = false := by decide) : PE X (.Name x pos) (tC (.int i)) :=
  hm.elim fun t e => pe_glob (v := .int i) hg e ⟨t, rfl⟩ hd
def allB (ns : List Int) (span : Int) : Bool := ns.all fun x => !(decide (x < 0) || decide (span ≤ x))
theorem allB_snoc {ns : List Int} {span z : Int} {i : Nat} (h : ns[i]? = some z) : allB (ns.take (i + 1)) span = (allB (ns.take i) span && !(decide (z < 0) || decide (span ≤ z))) := by
  unfold allB
  rw [take_snoc h, List.all_append]
  simp
theorem allB_not {ns : List Int} {span z : Int} {i : Nat} (h : ns[i]? = some z) (hz : (decide (z < 0) || decide (span ≤ z)) = true) : allB ns span = false := by
  unfold allB
  rw [List.all_eq_false]
  exact ⟨z, List.mem_of_getElem? h, by rw [hz]; decide⟩
theorem allB_true {ns : List Int} {span : Int} (h : ∀ x ∈ ns, 0 ≤ x ∧ x < span) : allB ns span = true := by
  unfold allB
  rw [List.all_eq_true]
  intro x hx
  have := h x hx
  simp
  omega
end NP
/-! ### the slots of a mask as a list; how many masks have a slot -/
namespace NP
section
open Sh73
def bitsL (m : Nat) : List Nat := (List.range 64).filter fun i => m.testBit i
theorem bitsL_mem {m i : Nat} : i ∈ bitsL m ↔ i < 64 ∧ m.testBit i = true := by
  unfold bitsL
  rw [List.mem_filter, List.mem_range]
theorem bitsL_len (m : Nat) : (bitsL m).length ≤ 64 := by
  have := List.length_filter_le (fun i => m.testBit i) (List.range 64)
  rw [List.length_range] at this
  exact this
/-- one slot more of those gone through -/
def bitsTo (m n : Nat) : List Nat := (List.range n).filter fun i => m.testBit i
theorem bitsTo_succ (m n : Nat) : bitsTo m (n + 1) = bitsTo m n ++ (if m.testBit n = true then [n] else []) := by
  unfold bitsTo
  rw [List.range_succ, List.filter_append]
  cases h : m.testBit n <;> simp [h]
theorem bitsTo_len (m n : Nat) : (bitsTo m n).length ≤ n := by
  have := List.length_filter_le (fun i => m.testBit i) (List.range n)
  rw [List.length_range] at this
  exact this
theorem bitsL_nodup (m : Nat) : (bitsL m).Nodup := List.nodup_range.filter _
def natV (l : List Nat) : List Int := l.map fun (x : Nat) => (x : Int)
/-- counts, each slot of js one more -/
def bump (cs : List Int) (js : List Nat) : List Int := js.foldl (fun c j => c.set j (c.getD j 0 + 1)) cs
theorem bump_snoc (cs : List Int) (js : List Nat) (j : Nat) : bump cs (js ++ [j]) = (bump cs js).set j ((bump cs js).getD j 0 + 1) := by
  unfold bump
  rw [List.foldl_append]
  rfl
theorem bump_len (cs : List Int) : ∀ js : List Nat, (bump cs js).length = cs.length
  | [] => rfl
  | j :: js => by
    have := bump_len (cs.set j (cs.getD j 0 + 1)) js
    rw [List.length_set] at this
    exact this
theorem bump_at : ∀ (js : List Nat) (cs : List Int) (k : Nat), k < cs.length → (bump cs js).getD k 0 = cs.getD k 0 + ((js.count k : Nat) : Int)
  | [], cs, k, _ => by
    show cs.getD k 0 = _
    simp
  | j :: js, cs, k, hk => by
    have ih := bump_at js (cs.set j (cs.getD j 0 + 1)) k (by rw [List.length_set]; exact hk)
    show (bump (cs.set j (cs.getD j 0 + 1)) js).getD k 0 = _
    rw [ih, List.count_cons]
    by_cases c : j = k
    · subst c
      have e : (cs.set j (cs.getD j 0 + 1)).getD j 0 = cs.getD j 0 + 1 := by
        rw [List.getD_eq_getElem?_getD, List.getElem?_set_self hk]
        rfl
      rw [e]
      simp
      omega
    · have e : (cs.set j (cs.getD j 0 + 1)).getD k 0 = cs.getD k 0 := by
        rw [List.getD_eq_getElem?_getD, List.getElem?_set_ne c, List.getD_eq_getElem?_getD]
      rw [e]
      have : (j == k) = false := by simpa using c
      rw [this]
      simp
theorem count_bits (m k : Nat) (hk : k < 64) : (bitsL m).count k = if m.testBit k = true then 1 else 0 := by
  by_cases c : m.testBit k = true
  · rw [if_pos c, (bitsL_nodup m).count, if_pos (bitsL_mem.mpr ⟨hk, c⟩)]
  · rw [if_neg c]
    refine List.count_eq_zero.mpr fun h => c (bitsL_mem.mp h).2
def crowdV (l : List Int) : List Int := (List.range 64).map fun i => ((crowd (Sh73Neutral.nats l) i : Nat) : Int)
theorem crowdV_len (l : List Int) : (crowdV l).length = 64 := by
  unfold crowdV
  rw [List.length_map, List.length_range]
theorem crowdV_at (l : List Int) (k : Nat) (hk : k < 64) : (crowdV l).getD k 0 = ((crowd (Sh73Neutral.nats l) k : Nat) : Int) := by
  unfold crowdV
  rw [List.getD_eq_getElem?_getD, List.getElem?_map, List.getElem?_range hk]
  rfl
theorem crowdV_nil : crowdV [] = List.replicate 64 0 := rfl
theorem crowdV_snoc (l : List Int) (x : Int) : crowdV (l ++ [x]) = bump (crowdV l) (bitsL x.toNat) := by
  refine List.ext_getElem (by rw [bump_len, crowdV_len, crowdV_len]) fun k h1 h2 => ?_
  have hk : k < 64 := by rw [crowdV_len] at h1; exact h1
  have e1 : (crowdV (l ++ [x]))[k] = (crowdV (l ++ [x])).getD k 0 := by
    rw [List.getD_eq_getElem?_getD, List.getElem?_eq_getElem h1]
    rfl
  have e2 : (bump (crowdV l) (bitsL x.toNat))[k] = (bump (crowdV l) (bitsL x.toNat)).getD k 0 := by
    rw [List.getD_eq_getElem?_getD, List.getElem?_eq_getElem h2]
    rfl
  refine e1.trans (Eq.trans ?_ e2.symm)
  rw [crowdV_at _ _ hk, bump_at _ _ _ (by rw [crowdV_len]; exact hk), crowdV_at _ _ hk, count_bits _ _ hk]
  unfold crowd Sh73Neutral.nats
  rw [List.map_append, List.filter_append, List.length_append]
  unfold has
  cases h : x.toNat.testBit k <;> simp [h]
def crowdP (l : List Int) : List Int := if 1024 < (l.length : Int) then [-2] else 0 :: crowdV l
theorem crowd_ok (l : List Int) : crowdP l = PySh73.np_crowd l := by
  have e1 : (Sh73Neutral.nats l).length = l.length := List.length_map ..
  unfold crowdP PySh73.np_crowd Sh73Neutral.f
  simp only [Sh73Neutral.callOf, Sh73.few, e1]
  by_cases c : 1024 < (l.length : Int)
  · rw [if_pos c]
    have : decide (l.length ≤ 1024) = false := decide_eq_false (by omega)
    rw [this]
    rfl
  · rw [if_neg c]
    have : decide (l.length ≤ 1024) = true := decide_eq_true (by omega)
    rw [this]
    simp only [if_true, Sh73.answer, Sh73.done, Sh73Neutral.told, Sh73Neutral.ints, List.map_map]
    rfl
end
end NP
namespace NP
open PySem PySem.Spec PyProof.Rows L2
open PySem.W (Codec)
def top (i : Nat) : Stmt := PySem.Challenge.pw_nightplan_s04_np_crowd.main.body.getD i (.Pass ⟨0, 0, 0, 0⟩)
abbrev s_all_below : Stmt := top 5
abbrev s_masks_in_range : Stmt := top 6
abbrev s_bits_of : Stmt := top 7
abbrev s_np_crowd : Stmt := top 8
/-- a def as the top has left it: its text, how it binds, its name -/
structure Def (K : PySem.W.Frag) (mg : Str → Option Value) (x : Str) (st : Stmt) (ps : List Str) (f : Addr) (fd : FuncData) : Prop where
  F : Fun K x x st f fd
  b : Binds K fd ps []
  g : mg x = some (.ref f)
structure Txt (K : PySem.W.Frag) (mg : Str → Option Value) : Prop where
  g_OUT_OF_RANGE : ∃ t, mg "OUT_OF_RANGE" = some (.int (-2) t)
  g_SLOTS : ∃ t, mg "SLOTS" = some (.int 64 t)
  g_LONG_SPAN : ∃ t, mg "LONG_SPAN" = some (.int 18446744073709551616 t)
  g_MOST_MASKS : ∃ t, mg "MOST_MASKS" = some (.int 1024 t)
  m_len : mg "len" = none
  m_range : mg "range" = none
  d_all_below : ∃ f fd, Def K mg "all_below" s_all_below ["numbers", "span"] f fd
  d_masks_in_range : ∃ f fd, Def K mg "masks_in_range" s_masks_in_range ["masks", "most"] f fd
  d_bits_of : ∃ f fd, Def K mg "bits_of" s_bits_of ["mask"] f fd
section
variable {P : Program} {w : World} {K : PySem.W.Frag} {mg : Str → Option Value} {base : Heap}
/-! ### all_below -/
def sp_all_below (K : PySem.W.Frag) : Sp := fun vs H Q _ => ∃ (a : Addr) (ns : List Int) (span : Int), vs = [.ref a, .int span] ∧ SqL K H a (ns.map V.int) ∧ Q (.bl (allB ns span)) H
theorem sc_all_below : FnScope ["numbers", "span", "number"] ["numbers", "span"] (defScope s_all_below) := ⟨rfl, rfl, rfl, by decide +kernel, rfl, by decide +kernel, by decide +kernel⟩
theorem ok_all_below {f : Addr} {fd : FuncData} {k : Nat} (D : Def K mg "all_below" s_all_below ["numbers", "span"] f fd) : FnOk P w K mg base CX0 (k + 1) f fd ["numbers", "span"] (sp_all_below K) := by
  refine D.F.ok sc_all_below (fun vs H Q E h => ?_) (fun cdv A outer s H vs Q E hr h => ?_)
  · obtain ⟨a, ns, span, rfl, _⟩ := h
    rfl
  · obtain ⟨a, ns, span, rfl, hS, q⟩ := h
    refine ⟨_, pss_cons (ps_for PassesOwn.never rfl (pi_list (pv 0)) (pg_name (i := 2) sc_all_below.nd rfl (.inl rfl))
        (pss_one (ps_if (PW.pt (pw_or (pt_cmpR op_lt (pv 2) pe_int (nomark _)) (pw_or1 (pt_cmpR op_ge (pv 2) (pv 1) (nomark _))))) (pss_one (ps_ret pe_bl)) pss_nil)))
      (pss_one (ps_ret pe_bl)), ?_⟩
    refine ⟨_, rfl, a, rfl, ⟨_, hS⟩, for_list (K := K) (a := a) (xs := ns.map V.int) (fun i σ H' => (∃ v, σ = [some (.ref a), some (.int span), v]) ∧ H' = H ∧ allB (ns.take i) span = true)
      ⟨⟨none, rfl⟩, rfl, rfl⟩ (fun i σ H' _ ⟨_, e, _⟩ => e ▸ hS) ?_ ?_⟩
    · rintro i y σ H' hi ⟨⟨v, rfl⟩, rfl, hb⟩
      obtain ⟨z, hz, rfl⟩ := int_at hi
      refine ⟨_, rfl, z, 0, rfl, rfl, _, rfl, ?_⟩
      by_cases c : z < 0
      · refine ift (decide_eq_true c) ?_
        rw [allB_not hz (by simp [c])] at q
        exact q
      · refine iff_ (decide_eq_false c) ?_
        refine ⟨_, rfl, _, rfl, z, span, rfl, rfl, _, rfl, ?_⟩
        by_cases c2 : span ≤ z
        · refine ift (decide_eq_true c2) ?_
          rw [allB_not hz (by simp [c2])] at q
          exact q
        · refine iff_ (decide_eq_false c2) ?_
          refine ⟨⟨_, rfl⟩, rfl, ?_⟩
          rw [allB_snoc hz, hb]
          simp [c, c2]
    · rintro σ H' ⟨⟨v, rfl⟩, rfl, hb⟩
      rw [List.length_map, List.take_length] at hb
      rw [hb] at q
      exact q
/-! ### masks_in_range -/
def sp_masks_in_range (K : PySem.W.Frag) : Sp := fun vs H Q _ => ∃ (a : Addr) (ns : List Int) (most : Int), vs = [.ref a, .int most] ∧ SqL K H a (ns.map V.int) ∧ Q (.bl (decide ((ns.length : Int) ≤ most) && allB ns 18446744073709551616)) H
theorem sc_masks_in_range : FnScope ["masks", "most"] ["masks", "most"] (defScope s_masks_in_range) := ⟨rfl, rfl, rfl, by decide +kernel, rfl, by decide +kernel, by decide +kernel⟩
theorem ok_masks_in_range {f : Addr} {fd : FuncData} {k : Nat} (T : Txt K mg) (D : Def K mg "masks_in_range" s_masks_in_range ["masks", "most"] f fd) : FnOk P w K mg base CX0 (k + 2) f fd ["masks", "most"] (sp_masks_in_range K) := by
  obtain ⟨fA, fdA, DA⟩ := T.d_all_below
  have GA : FnOk P w K mg base CX0 (k + 1) fA fdA ["numbers", "span"] (sp_all_below K) := ok_all_below DA
  refine D.F.ok sc_masks_in_range (fun vs H Q E h => ?_) (fun cdv A outer s H vs Q E hr h => ?_)
  · obtain ⟨a, ns, most, rfl, _⟩ := h
    rfl
  · obtain ⟨a, ns, most, rfl, hS, q⟩ := h
    refine ⟨_, pss_one (ps_ret (pe_and (pe_cmpR op_le (pe_callB call_len_seq (by rfl) T.m_len PySem.boot_len (pa_cons (pv 0) pa_nil)) (pv 1) (nomark _))
      (pe_one (pe_call GA hr rfl DA.g DA.F.kp DA.b .nil pass0 (pa_cons (pv 0) (pa_cons (pe_gi rfl T.g_LONG_SPAN) pa_nil)))))), ?_⟩
    refine ⟨_, rfl, a, _, rfl, .inl hS, _, rfl, _, _, rfl, rfl, _, rfl, ?_⟩
    rw [List.length_map]
    by_cases c : (ns.length : Int) ≤ most
    · refine ift (decide_eq_true c) ?_
      rw [decide_eq_true c, Bool.true_and] at q
      exact ⟨_, rfl, a, ns, _, rfl, hS, q⟩
    · refine iff_ (decide_eq_false c) ?_
      rw [decide_eq_false c, Bool.false_and] at q
      exact q
/-! ### bits_of -/
def intsN (l : List Nat) : List V := l.map fun (x : Nat) => V.int (x : Int)
theorem nat_at {ns : List Nat} {i : Nat} {y : V} (hi : (intsN ns)[i]? = some y) : ∃ z, ns[i]? = some z ∧ y = V.int (z : Int) := by
  unfold intsN at hi
  rw [List.getElem?_map, Option.map_eq_some_iff] at hi
  obtain ⟨z, h1, h2⟩ := hi
  exact ⟨z, h1, h2.symm⟩
theorem intsN_len (l : List Nat) : (intsN l).length = l.length := List.length_map ..
def sp_bits_of : Sp := fun vs H Q _ => ∃ (m : Nat), vs = [.int (m : Int)] ∧
  ∀ (H' : Hp) (p : Addr), Same H H' → H p = none → H' p = some (.lst (intsN (bitsL m))) → Q (.ref p) H'
theorem sc_bits_of : FnScope ["mask", "bit"] ["mask"] (defScope s_bits_of) := ⟨rfl, rfl, rfl, by decide +kernel, rfl, by decide +kernel, by decide +kernel⟩
theorem bit_is (m i : Nat) : decide (Builtin.bitAnd ((m : Int) / 2 ^ ((0 + (i : Int)).toNat)) 1 = 1) = m.testBit i := by
  have e0 : (0 + (i : Int)).toNat = i := by omega
  have e1 : ((m : Int) / 2 ^ i) = ((m / 2 ^ i : Nat) : Int) := by norm_cast
  rw [e0, e1, PyProof.Rows.bitAnd_pp (Int.natCast_nonneg _) (by decide), Nat.testBit_eq_decide_div_mod_eq]
  have e2 : (((m / 2 ^ i : Nat) : Int).toNat &&& (1 : Int).toNat) = m / 2 ^ i % 2 := by
    rw [Int.toNat_natCast]
    exact Nat.and_one_is_mod _
  rw [e2]
  exact decide_eq_decide.mpr (by omega)
theorem bit_isV (m i : Nat) : decide (V.int (Builtin.bitAnd ((m : Int) / 2 ^ ((0 + (i : Int)).toNat)) 1) = V.int 1) = m.testBit i :=
  (decide_eq_decide.mpr ⟨fun z => V.int.inj z, fun z => congrArg V.int z⟩).trans (bit_is m i)
theorem ok_bits_of {f : Addr} {fd : FuncData} {k : Nat} (T : Txt K mg) (D : Def K mg "bits_of" s_bits_of ["mask"] f fd) : FnOk P w K mg base CX0 (k + 1) f fd ["mask"] sp_bits_of := by
  refine D.F.ok sc_bits_of (fun vs H Q E h => ?_) (fun cdv A outer s H vs Q E hr h => ?_)
  · obtain ⟨m, rfl, _⟩ := h
    rfl
  · obtain ⟨m, rfl, q⟩ := h
    refine ⟨_, pss_one (ps_ret (pe_lc (own := [("bit", 1)]) (g := gName 1) rfl sc_bits_of.nd (pi_range1 rfl T.m_range (pa_cons (pe_gi rfl T.g_SLOTS) pa_nil)) (blkOk_by (N := ["mask", "bit"]) (sc := defScope s_bits_of) (by decide +kernel))
          (fun _ _ _ _ _ => pg_name (i := 1) sc_bits_of.nd rfl (Or.inl rfl)) (fun _ _ _ _ _ => pts_one (pt_cmpR op_eq (pe_op op_and (pe_op op_shr (pv 0) (pv 1)) pe_int) pe_int (nomark _)))
          (fun _ _ _ _ _ => pv 1))), ?_⟩
    refine ⟨64, rfl, by decide, by decide, fun B hB => ?_⟩
    refine lc_range (lo := 0) (n := 64) (fun i H' => Same H H' ∧ H' B = some (.lst (intsN (bitsTo m i)))) ⟨new_same hB, upd_same⟩ ?_ ?_
    · rintro i H' hi ⟨sm, eB⟩
      refine ⟨rfl, _, rfl, _, rfl, _, _, rfl, rfl, by omega, _, 1, rfl, rfl, rfl, _, rfl, ?_⟩
      have hb := bit_isV m i
      cases z : m.testBit i with
      | false =>
        refine iff_ (hb.trans z) ⟨sm, ?_⟩
        rw [bitsTo_succ, z]
        simpa using eB
      | true =>
        refine ift (hb.trans z) ⟨_, rfl, _, eB, ?_, grow_same hB sm, ?_⟩
        · have := bitsTo_len m i
          unfold intsN
          rw [List.length_map]
          exact Nat.lt_of_lt_of_le (show (bitsTo m i).length < 100 by omega) (by decide)
        · rw [upd_same, bitsTo_succ, z]
          unfold intsN
          rw [if_pos rfl, List.map_append]
          simp
    · rintro H' ⟨sm, eB⟩
      exact q H' B sm hB eB
/-! ### np_crowd -/
def sp_np_crowd (K : PySem.W.Frag) : Sp := fun vs H Q _ => ∃ (a : Addr) (ns : List Int), vs = [.ref a] ∧ SqL K H a (ns.map V.int) ∧ ns.length ≤ 1027 ∧ (∀ x ∈ ns, 0 ≤ x ∧ x ≤ 18446744073709551615) ∧
  ∀ (H' : Hp) (p : Addr), H' p = some (.lst ((PySh73.np_crowd ns).map V.int)) → Q (.ref p) H'
theorem sc_np_crowd : FnScope ["l", "counts", "mask", "slot"] ["l"] (defScope s_np_crowd) := ⟨rfl, rfl, rfl, by decide +kernel, rfl, by decide +kernel, by decide +kernel⟩
theorem ixN_nat {n j : Nat} (h : j < n) : ixN n (j : Int) = some j := by
  unfold ixN
  rw [if_pos (Int.natCast_nonneg _), if_pos (by omega), Int.toNat_natCast]
theorem at_getD (cs : List Int) {j : Nat} (h : j < cs.length) : (cs.map V.int)[j]? = some (.int (cs.getD j 0)) := by
  rw [List.getElem?_map, List.getElem?_eq_getElem h, List.getD_eq_getElem?_getD, List.getElem?_eq_getElem h]
  rfl
theorem ok_np_crowd {f : Addr} {fd : FuncData} (T : Txt K mg) (D : Def K mg "np_crowd" s_np_crowd ["l"] f fd) : FnOk P w K mg base CX0 3 f fd ["l"] (sp_np_crowd K) := by
  obtain ⟨f1, fd1, D1⟩ := T.d_masks_in_range
  obtain ⟨f2, fd2, D2⟩ := T.d_bits_of
  have G1 : FnOk P w K mg base CX0 2 f1 fd1 ["masks", "most"] (sp_masks_in_range K) := ok_masks_in_range T D1
  have G2 : FnOk P w K mg base CX0 2 f2 fd2 ["mask"] sp_bits_of := ok_bits_of T D2
  refine D.F.ok sc_np_crowd (fun vs H Q E h => ?_) (fun cdv A outer s H vs Q E hr h => ?_)
  · obtain ⟨a, ns, rfl, _⟩ := h
    rfl
  · obtain ⟨a, ns, rfl, hS, hlen, hb, q⟩ := h
    have nd := sc_np_crowd.nd
    refine ⟨_, pss_cons (ps_if (pt_not (pt_val (pe_call G1 hr rfl D1.g D1.F.kp D1.b .nil pass0 (pa_cons (pv 0) (pa_cons (pe_gi rfl T.g_MOST_MASKS) pa_nil))))) (pss_one (ps_ret (pe_lst (pa_cons (pe_gi rfl T.g_OUT_OF_RANGE) pa_nil)))) pss_nil)
      (pss_cons (ps_set (i := 1) nd rfl (.inl rfl) (pe_op op_rep (pe_lst (pa_cons pe_int pa_nil)) (pe_gi rfl T.g_SLOTS)))
      (pss_cons (ps_for PassesOwn.never rfl (pi_list (pv 0)) (pg_name (i := 2) nd rfl (.inl rfl))
        (pss_one (ps_for PassesOwn.never rfl (pi_list (pe_call G2 hr rfl D2.g D2.F.kp D2.b .nil pass0 (pa_cons (pv 2) pa_nil))) (pg_name (i := 3) nd rfl (.inl rfl))
          (pss_one (ps_asg (pe_op op_add (pe_ix ix_list (pv 1) (pv 3) (fun _ _ => rfl)) pe_int) (pg_sub (pv 1) (pv 3) set_list))))))
      (pss_one (ps_ret (pe_op op_cat (pe_lst (pa_cons pe_int pa_nil)) (pv 1)))))), ?_⟩
    have fin : ∀ H1, ∀ p, H1 p = some (.lst ((crowdP ns).map V.int)) → Q (.ref p) H1 := fun H1 p e => q H1 p (by rw [← crowd_ok ns]; exact e)
    have hall : allB ns 18446744073709551616 = true := allB_true fun x hx => by have := hb x hx; omega
    refine ⟨_, rfl, a, ns, _, rfl, hS, _, rfl, ?_⟩
    rw [hall, Bool.and_true]
    by_cases c : (ns.length : Int) ≤ 1024
    · rw [decide_eq_true c]
      refine iff_ rfl ?_
      refine ⟨(by show 1 ≤ sizeLine; decide), fun z hz => ?_⟩
      refine ⟨z, 64, _, rfl, rfl, upd_same, by decide, by decide, (by show 1 * 64 ≤ sizeLine; decide), fun cn hcn => ?_⟩
      have s1 : Same H (upd H z (.lst [.int 0])) := new_same hz
      have s2 : Same H (upd (upd H z (.lst [.int 0])) cn (.lst (List.replicate (64 : Int).toNat [V.int 0]).flatten)) := s1.trans (new_same hcn)
      have ncn : H cn = none := by
        cases e : H cn with
        | none => rfl
        | some o => rw [s1 _ _ e] at hcn; cases hcn
      refine ⟨_, rfl, a, rfl, ⟨_, s2.seq hS⟩, for_list (K := K) (a := a) (xs := ns.map V.int) (fun i σ H' => (∃ v2 v3, σ = [some (.ref a), some (.ref cn), v2, v3]) ∧ Same H H' ∧ H' cn = some (.lst ((crowdV (ns.take i)).map V.int)))
        ⟨⟨none, none, rfl⟩, s2, upd_same⟩ (fun i σ H' _ ⟨_, e, _⟩ => e.seq hS) ?_ ?_⟩
      · rintro i y σ H' hi ⟨⟨v2, v3, rfl⟩, sm, ec⟩
        obtain ⟨x, hx, rfl⟩ := int_at hi
        have hx' := hb x (List.mem_of_getElem? hx)
        have ex : x = ((x.toNat : Nat) : Int) := by omega
        refine ⟨_, rfl, x.toNat, congrArg (fun u => [V.int u]) ex, fun H1 p t1 n1 e1 => ?_⟩
        have cp : cn ≠ p := ne_of_none ec n1
        refine ⟨p, rfl, ⟨_, SqL.of e1⟩, for_list (K := K) (a := p) (xs := intsN (bitsL x.toNat)) (fun j σ H' => (∃ v3, σ = [some (.ref a), some (.ref cn), some (.int x), v3]) ∧ Same H H' ∧ H' p = some (.lst (intsN (bitsL x.toNat))) ∧ H' cn = some (.lst ((bump (crowdV (ns.take i)) ((bitsL x.toNat).take j)).map V.int)))
          ⟨⟨v3, rfl⟩, sm.trans t1, e1, t1 _ _ ec⟩ (fun j σ H' _ ⟨_, _, e, _⟩ => SqL.of e) ?_ ?_⟩
        · rintro j y σ H2 hj ⟨⟨w3, rfl⟩, sm2, ep, ec2⟩
          obtain ⟨sl, hsl, rfl⟩ := nat_at hj
          have hs64 := (bitsL_mem.mp (List.mem_of_getElem? hsl)).1
          have hln : sl < (bump (crowdV (ns.take i)) ((bitsL x.toNat).take j)).length := by rw [bump_len, crowdV_len]; exact hs64
          refine ⟨_, rfl, _, rfl, cn, _, _, _, rfl, rfl, SqL.of ec2, atI_nat (at_getD _ hln), _, _, rfl, rfl, _, rfl, _, rfl, cn, _, _, sl, rfl, rfl, ec2, ?_, ?_⟩
          · rw [List.length_map]
            exact ixN_nat hln
          · refine ⟨⟨_, rfl⟩, grow_same ncn sm2, (upd_ne cp.symm).trans ep, ?_⟩
            rw [upd_same, take_snoc hsl, bump_snoc, List.map_set]
        · rintro σ H2 ⟨⟨w3, rfl⟩, sm2, ep, ec2⟩
          rw [intsN_len, List.take_length] at ec2
          refine ⟨⟨_, _, rfl⟩, sm2, ?_⟩
          rw [take_snoc hx, crowdV_snoc]
          exact ec2
      · rintro σ H' ⟨⟨v2, v3, rfl⟩, sm, ec⟩
        rw [List.length_map, List.take_length] at ec
        refine ⟨(by show 1 ≤ sizeLine; decide), fun b hb2 => ?_⟩
        have cb : cn ≠ b := ne_of_none ec hb2
        refine ⟨_, rfl, b, cn, _, _, rfl, rfl, upd_same, (upd_ne cb).trans ec, ?_, fun p hp => ?_⟩
        · rw [List.length_map, crowdV_len]
          show 1 + 64 ≤ sizeLine
          decide
        · refine fin _ p ?_
          rw [upd_same, crowdP, if_neg (by omega)]
          rfl
    · rw [decide_eq_false c]
      refine ift rfl ?_
      refine ⟨(by show 1 ≤ sizeLine; decide), fun p hp => fin _ p ?_⟩
      rw [upd_same, crowdP, if_pos (by omega)]
      rfl
end
theorem all_mk {P : Program} {w : World} {K : PySem.W.Frag} {h : Heap} {mg : Str → Option Value} {fa f0 f1 f2 f3 : Addr} (X : K.In h) (G : h.Ns mainGlobals mg) (hfa : mg "np_crowd" = some (.ref fa))
    {od0 an0 od1 an1 od2 an2 od3 an3 : Option Addr} {sl0 sl1 sl2 sl3 : Array (Option Value)} {oc0 kV0 dc0 pm0 cd0 ct0 oc1 kV1 dc1 pm1 cd1 ct1 oc2 kV2 dc2 pm2 cd2 ct2 oc3 kV3 dc3 pm3 cd3 ct3 : Value}
    {t_OUT_OF_RANGE t_SLOTS t_LONG_SPAN t_MOST_MASKS : Tok}
    (g_OUT_OF_RANGE : PySem.W.nsIn K mainGlobals "OUT_OF_RANGE" = some (some (.int (-2) t_OUT_OF_RANGE)))
    (g_SLOTS : PySem.W.nsIn K mainGlobals "SLOTS" = some (some (.int 64 t_SLOTS)))
    (g_LONG_SPAN : PySem.W.nsIn K mainGlobals "LONG_SPAN" = some (some (.int 18446744073709551616 t_LONG_SPAN)))
    (g_MOST_MASKS : PySem.W.nsIn K mainGlobals "MOST_MASKS" = some (some (.int 1024 t_MOST_MASKS)))
    (m_len : PySem.W.nsIn K mainGlobals "len" = some none)
    (m_range : PySem.W.nsIn K mainGlobals "range" = some none)
    (a0 : PySem.W.nsIn K mainGlobals "all_below" = some (some (.ref f0))) (l0 : K.lookup f0 = some ⟨oc0, od0, .func (PySem.W.fnOf "all_below" "all_below" (defArgs s_all_below) (defBody s_all_below) (defScope s_all_below) .none kV0 dc0 pm0 an0 cd0 ct0), sl0⟩) (c0 : PySem.W.codeIn K cd0 "all_below" = true) (k0 : PySem.W.keepIn K (.ref f0) = true)
    (a1 : PySem.W.nsIn K mainGlobals "masks_in_range" = some (some (.ref f1))) (l1 : K.lookup f1 = some ⟨oc1, od1, .func (PySem.W.fnOf "masks_in_range" "masks_in_range" (defArgs s_masks_in_range) (defBody s_masks_in_range) (defScope s_masks_in_range) .none kV1 dc1 pm1 an1 cd1 ct1), sl1⟩) (c1 : PySem.W.codeIn K cd1 "masks_in_range" = true) (k1 : PySem.W.keepIn K (.ref f1) = true)
    (a2 : PySem.W.nsIn K mainGlobals "bits_of" = some (some (.ref f2))) (l2 : K.lookup f2 = some ⟨oc2, od2, .func (PySem.W.fnOf "bits_of" "bits_of" (defArgs s_bits_of) (defBody s_bits_of) (defScope s_bits_of) .none kV2 dc2 pm2 an2 cd2 ct2), sl2⟩) (c2 : PySem.W.codeIn K cd2 "bits_of" = true) (k2 : PySem.W.keepIn K (.ref f2) = true)
    (a3 : PySem.W.nsIn K mainGlobals "np_crowd" = some (some (.ref f3))) (l3 : K.lookup f3 = some ⟨oc3, od3, .func (PySem.W.fnOf "np_crowd" "np_crowd" (defArgs s_np_crowd) (defBody s_np_crowd) (defScope s_np_crowd) .none kV3 dc3 pm3 an3 cd3 ct3), sl3⟩) (c3 : PySem.W.codeIn K cd3 "np_crowd" = true) (k3 : PySem.W.keepIn K (.ref f3) = true) :
    ∃ fd : FuncData, (∀ (s : Shared) (us : List Value), us.length = (["l"] : List Str).length → BindsTo s fd ⟨us, []⟩ ((["l"] : List Str).zip us)) ∧ ∀ base : Heap, K.In base → base.Ns mainGlobals mg → FnOk P w K mg base CX0 3 fa fd ["l"] (sp_np_crowd K) := by
  have e := hfa.symm.trans (PySem.W.mg_of X G a3)
  cases e
  have F0 := fun_mk (st := s_all_below) l0 c0 k0
  have b0 := F0.binds (ps := ["numbers", "span"]) fun _ _ _ _ _ _ us hl => match us, hl with | [_, _], _ => rfl
  have F1 := fun_mk (st := s_masks_in_range) l1 c1 k1
  have b1 := F1.binds (ps := ["masks", "most"]) fun _ _ _ _ _ _ us hl => match us, hl with | [_, _], _ => rfl
  have F2 := fun_mk (st := s_bits_of) l2 c2 k2
  have b2 := F2.binds (ps := ["mask"]) fun _ _ _ _ _ _ us hl => match us, hl with | [_], _ => rfl
  have F3 := fun_mk (st := s_np_crowd) l3 c3 k3
  have b3 := F3.binds (ps := ["l"]) fun _ _ _ _ _ _ us hl => match us, hl with | [_], _ => rfl
  have T : Txt K mg := ⟨⟨_, PySem.W.mg_of X G g_OUT_OF_RANGE⟩, ⟨_, PySem.W.mg_of X G g_SLOTS⟩, ⟨_, PySem.W.mg_of X G g_LONG_SPAN⟩, ⟨_, PySem.W.mg_of X G g_MOST_MASKS⟩, PySem.W.mg_none_of X G m_len, PySem.W.mg_none_of X G m_range, ⟨_, _, F0, b0, PySem.W.mg_of X G a0⟩, ⟨_, _, F1, b1, PySem.W.mg_of X G a1⟩, ⟨_, _, F2, b2, PySem.W.mg_of X G a2⟩⟩
  exact ⟨PySem.W.fnOf "np_crowd" "np_crowd" (defArgs s_np_crowd) (defBody s_np_crowd) (defScope s_np_crowd) .none kV3 dc3 pm3 an3 cd3 ct3, fun s us hu => match us, hu with | [_], _ => .of_eq rfl, fun base _ _ => ok_np_crowd T ⟨F3, b3, PySem.W.mg_of X G a3⟩⟩
end NP
open PySem PySem.W PyProof.Rows
set_option maxRecDepth 100000 in
set_option maxHeartbeats 8000000 in
theorem PySem.Challenge.cw_nightplan_s04_np_crowd_holds : PySem.Challenge.rw_nightplan_s04_np_crowd.Holds := by
  w_on; k_headS; (case hw => exact ⟨[.list []], by decide +kernel, by decide +kernel⟩)
  k_fillS
  refine L2.walk_specK (r := PySem.Challenge.rw_nightplan_s04_np_crowd) (k := 3) (CX := L2.CX0) (ps := ["l"]) (sp := NP.sp_np_crowd) (by decide +kernel) rfl rfl ⟨rfl, by decide, by decide⟩ (fun w h Y => PySem.W.kIn_of Y) ?F ?S (fun _ _ _ _ z => z)
  case F =>
    intro w mg fa h Y KX G hmg
    refine' NP.all_mk KX G hmg ?g_OUT_OF_RANGE ?g_SLOTS ?g_LONG_SPAN ?g_MOST_MASKS ?m_len ?m_range ?a0 ?l0 ?c0 ?k0 ?a1 ?l1 ?c1 ?k1 ?a2 ?l2 ?c2 ?k2 ?a3 ?l3 ?c3 ?k3
    (case g_OUT_OF_RANGE => k_is)
    (case g_SLOTS => k_is)
    (case g_LONG_SPAN => k_is)
    (case g_MOST_MASKS => k_is)
    (case m_len => k_is)
    (case m_range => k_is)
    (case a0 => k_is)
    (case l0 => k_is)
    (case c0 => k_is)
    (case k0 => k_is)
    (case a1 => k_is)
    (case l1 => k_is)
    (case c1 => k_is)
    (case k1 => k_is)
    (case a2 => k_is)
    (case l2 => k_is)
    (case c2 => k_is)
    (case k2 => k_is)
    (case a3 => k_is)
    (case l3 => k_is)
    (case c3 => k_is)
    (case k3 => k_is)
  case S =>
    intro K H xs a hO hwi hask hx
    obtain ⟨l, u⟩ := a
    cases hx with
    | cons h3 h4 =>
      cases h4
      cases h3 with
      | lst hs ha =>
        have e := L2.ints_dw l _ ha
        subst e
        have q : ((Codec.inLen 0 1027 l && l.all (Codec.inInt 0 18446744073709551615)) && true) = true := hwi
        rw [Bool.and_eq_true, Bool.and_eq_true, List.all_eq_true] at q
        exact ⟨_, l, rfl, hs, (Codec.inNat_iff.mp q.1.1).2, fun x hx => Codec.inInt_iff.mp (q.1.2 x hx), fun H' p hp => .lst (L2.SqL.of hp) (L2.dw_ints _)⟩
#print axioms PySem.Challenge.cw_nightplan_s04_np_crowd_holds

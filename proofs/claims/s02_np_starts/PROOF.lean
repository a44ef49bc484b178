import PyProof.Rows.All
import Wide.All
import OpenK.AllK
import Wide.FinOn
import Open.SpecLaws
import KE.OsGo
import HandS.Base
import HandS.Call
import HandS.List
import HandS.Comp
import HandS.Ends
import HandS.Spec
import HandS.Words
import HandS.Iter
import HandS.Text
import HandS.Walk
import PySem.Challenge.RW_nightplan_s02_np_starts
set_option Elab.async false
set_option maxRecDepth 100000
set_option maxHeartbeats 2000000
namespace NP
section
open Sh73
/-! ### masks -/
theorem ofBits_fold (f : Nat → Bool) : ∀ n : Nat, let r := (List.range n).foldl (fun (a : Nat) (i : Nat) => if f i = true then a + 2 ^ i else a) 0
    r < 2 ^ n ∧ ∀ i, r.testBit i = (decide (i < n) && f i)
  | 0 => ⟨Nat.zero_lt_one, fun i => by simp⟩
  | n + 1 => by
    have ih := ofBits_fold f n
    simp only at ih ⊢
    rw [List.range_succ, List.foldl_append]
    generalize (List.range n).foldl (fun (a : Nat) (i : Nat) => if f i = true then a + 2 ^ i else a) 0 = r at ih ⊢
    obtain ⟨h1, h2⟩ := ih
    simp only [List.foldl_cons, List.foldl_nil]
    have hp : 2 ^ (n + 1) = 2 ^ n + 2 ^ n := by rw [Nat.pow_succ]; omega
    cases hf : f n with
    | false =>
      simp only [Bool.false_eq_true, if_false]
      refine ⟨by omega, fun i => ?_⟩
      rw [h2]
      by_cases hi : i = n
      · subst hi
        simp [hf]
      · have : decide (i < n + 1) = decide (i < n) := decide_eq_decide.mpr (by omega)
        rw [this]
    | true =>
      simp only [if_true]
      refine ⟨by omega, fun i => ?_⟩
      rw [Nat.add_comm]
      by_cases hi : i = n
      · subst hi
        rw [Nat.testBit_two_pow_add_eq, h2]
        simp [hf]
      · by_cases hlt : i < n
        · rw [Nat.testBit_two_pow_add_gt hlt, h2]
          have : decide (i < n + 1) = decide (i < n) := decide_eq_decide.mpr (by omega)
          rw [this]
        · have hb : 2 ^ n + r < 2 ^ i := by
            have : 2 ^ (n + 1) ≤ 2 ^ i := Nat.pow_le_pow_right (by decide) (by omega)
            omega
          rw [Nat.testBit_lt_two_pow hb]
          have : decide (i < n + 1) = false := decide_eq_false (by omega)
          rw [this]
          rfl
theorem ofBits_lt (f : Nat → Bool) : ofBits f < 2 ^ 64 := (ofBits_fold f 64).1
theorem ofBits_bit (f : Nat → Bool) (i : Nat) : (ofBits f).testBit i = (decide (i < 64) && f i) := (ofBits_fold f 64).2 i
/-! ### starts -/
def stN (m : Nat) : Nat → Nat
  | 0 => 18446744073709551615
  | j + 1 => stN m j &&& (m >>> j)
theorem stN_bit (m : Nat) : ∀ d i : Nat, (stN m d).testBit i = (decide (i < 64) && (List.range d).all fun j => m.testBit (i + j))
  | 0, i => by
    show Nat.testBit (2 ^ 64 - 1) i = _
    rw [Nat.testBit_two_pow_sub_one]
    simp
  | d + 1, i => by
    show (stN m d &&& (m >>> d)).testBit i = _
    rw [Nat.testBit_and, stN_bit m d i, Nat.testBit_shiftRight, List.range_succ, List.all_append, Nat.add_comm d i]
    simp [Bool.and_assoc]
theorem bit_big {m i : Nat} (h : m < 2 ^ 64) (hi : 64 ≤ i) : m.testBit i = false :=
  Nat.testBit_lt_two_pow (Nat.lt_of_lt_of_le h (Nat.pow_le_pow_right (by decide) hi))
theorem starts_is {m : Nat} (h : m < 2 ^ 64) (d : Nat) : starts d m = stN m d := by
  refine Nat.eq_of_testBit_eq fun i => ?_
  unfold starts
  rw [ofBits_bit, stN_bit]
  unfold has
  by_cases hi : i < 64
  · by_cases hd : i + d ≤ 64
    · simp [hi, hd, SLOTS]
    · have h1 : decide (i + d ≤ SLOTS) = false := decide_eq_false hd
      rw [h1, Bool.false_and, Bool.and_false]
      have h2 : (List.range d).all (fun j => m.testBit (i + j)) = false := by
        rw [List.all_eq_false]
        exact ⟨d - 1, List.mem_range.mpr (by omega), by rw [bit_big h (by omega)]; decide⟩
      rw [h2, Bool.and_false]
  · simp [hi]
theorem stN_lt (m : Nat) : ∀ d, stN m d < 2 ^ 64
  | 0 => by show 18446744073709551615 < 2 ^ 64; decide
  | d + 1 => Nat.lt_of_le_of_lt Nat.and_le_left (stN_lt m d)
end
end NP
/-! ### words that every def's proof uses -/
namespace NP
open PySem PySem.Spec PyProof.Rows L2
open PySem.W (Codec)
theorem ift {c : Bool} {A B : Prop} (hc : c = true) (h : A) : if c = true then A else B := by
  subst hc
  exact h
theorem iff_ {c : Bool} {A B : Prop} (hc : c = false) (h : B) : if c = true then A else B := by
  subst hc
  exact h
theorem take_snoc {α : Type} {l : List α} {i : Nat} {x : α} (h : l[i]? = some x) : l.take (i + 1) = l.take i ++ [x] := by
  rw [List.take_add_one, h]
  rfl
theorem int_at {ns : List Int} {i : Nat} {y : V} (hi : (ns.map V.int)[i]? = some y) : ∃ z, ns[i]? = some z ∧ y = V.int z := by
  rw [List.getElem?_map, Option.map_eq_some_iff] at hi
  obtain ⟨z, h1, h2⟩ := hi
  exact ⟨z, h1, h2.symm⟩
theorem new_same {H : Hp} {p : Addr} {o : HO} (h : H p = none) : Same H (upd H p o) := fun _ _ e => (upd_ne (ne_of_none e h)).trans e
/-- a list that grows at a place that was new stays apart from what stood -/
theorem grow_same {H H' : Hp} {D : Addr} {o : HO} (hD : H D = none) (s : Same H H') : Same H (upd H' D o) := fun b x e => (upd_ne (ne_of_none e hD)).trans (s b x e)
theorem pe_gi {X : Cx} {x : Str} {i : Int} {pos : Pos} (hg : Gl X x) (hm : ∃ t, X.mg x = some (.int i t)) (hd : (x == ("__debug__" : Str)) = false := by decide) : PE X (.Name x pos) (tC (.int i)) :=
  hm.elim fun t e => pe_glob (v := .int i) hg e ⟨t, rfl⟩ hd
def allB (ns : List Int) (span : Int) : Bool := ns.all fun x => !(decide (x < 0) || decide (span ≤ x))
theorem allB_snoc {ns : List Int} {span z : Int} {i : Nat} (h : ns[i]? = some z) : allB (ns.take (i + 1)) span = (allB (ns.take i) span && !(decide (z < 0) || decide (span ≤ z))) := by
  unfold allB
  rw [take_snoc h, List.all_append]
  simp
theorem allB_not {ns : List Int} {span z : Int} {i : Nat} (h : ns[i]? = some z) (hz : (decide (z < 0) || decide (span ≤ z)) = true) : allB ns span = false := by
  unfold allB
  rw [List.all_eq_false]
  exact ⟨z, List.mem_of_getElem? h, by rw [hz]; decide⟩
theorem allB_true {ns : List Int} {span : Int} (h : ∀ x ∈ ns, 0 ≤ x ∧ x < span) : allB ns span = true := by
  unfold allB
  rw [List.all_eq_true]
  intro x hx
  have := h x hx
  simp
  omega
end NP
namespace NP
section
open Sh73
/-! ### np_starts as the program says it -/
def stI (d m : Int) : Int := ((stN m.toNat d.toNat : Nat) : Int)
def startsP (d : Int) (l : List Int) : List Int :=
  if d < 0 ∨ 64 < d then [-2] else if 1024 < (l.length : Int) ∨ allB l 18446744073709551616 = false then [-2] else 0 :: l.map (stI d)
theorem starts_ok (d : Int) (l : List Int) (h0 : 0 ≤ d) (hl : ∀ x ∈ l, 0 ≤ x ∧ x ≤ 18446744073709551615) : startsP d l = PySh73.np_starts d l := by
  have hall : allB l 18446744073709551616 = true := by
    unfold allB
    rw [List.all_eq_true]
    intro x hx
    have := hl x hx
    simp
    omega
  unfold startsP PySh73.np_starts Sh73Neutral.f
  simp only [Sh73Neutral.callOf, Sh73.few, Sh73Neutral.nats, List.length_map]
  by_cases hd : 64 < d
  · rw [if_pos (Or.inr hd)]
    have : decide (d.toNat ≤ 64) = false := decide_eq_false (by omega)
    rw [this, Bool.and_false]
    rfl
  · rw [if_neg (by omega)]
    have h1 : decide (d.toNat ≤ 64) = true := decide_eq_true (by omega)
    rw [h1, Bool.and_true, hall]
    by_cases hn : 1024 < (l.length : Int)
    · rw [if_pos (Or.inl hn)]
      have : decide (l.length ≤ 1024) = false := decide_eq_false (by omega)
      rw [this]
      rfl
    · rw [if_neg (by simp; omega)]
      have : decide (l.length ≤ 1024) = true := decide_eq_true (by omega)
      rw [this]
      simp only [if_true, Sh73.answer, Sh73.done, Sh73Neutral.told, Sh73Neutral.ints, List.map_map]
      refine congrArg (0 :: ·) (List.map_congr_left fun x hx => ?_)
      have hx' := hl x hx
      show stI d x = ((Sh73.starts d.toNat x.toNat : Nat) : Int)
      rw [starts_is (by omega)]
      rfl
end
end NP
namespace NP
open PySem PySem.Spec PyProof.Rows L2
open PySem.W (Codec)
def top (i : Nat) : Stmt := PySem.Challenge.pw_nightplan_s02_np_starts.main.body.getD i (.Pass ⟨0, 0, 0, 0⟩)
abbrev s_all_below : Stmt := top 6
abbrev s_starts_mask : Stmt := top 7
abbrev s_masks_in_range : Stmt := top 8
abbrev s_np_starts : Stmt := top 9
/-- a def as the top has left it: its text, how it binds, its name -/
structure Def (K : PySem.W.Frag) (mg : Str → Option Value) (x : Str) (st : Stmt) (ps : List Str) (f : Addr) (fd : FuncData) : Prop where
  F : Fun K x x st f fd
  b : Binds K fd ps []
  g : mg x = some (.ref f)
structure Txt (K : PySem.W.Frag) (mg : Str → Option Value) : Prop where
  g_OUT_OF_RANGE : ∃ t, mg "OUT_OF_RANGE" = some (.int (-2) t)
  g_SLOTS : ∃ t, mg "SLOTS" = some (.int 64 t)
  g_ALL_SLOTS : ∃ t, mg "ALL_SLOTS" = some (.int 18446744073709551615 t)
  g_LONG_SPAN : ∃ t, mg "LONG_SPAN" = some (.int 18446744073709551616 t)
  g_MOST_MASKS : ∃ t, mg "MOST_MASKS" = some (.int 1024 t)
  m_len : mg "len" = none
  m_range : mg "range" = none
  d_all_below : ∃ f fd, Def K mg "all_below" s_all_below ["numbers", "span"] f fd
  d_starts_mask : ∃ f fd, Def K mg "starts_mask" s_starts_mask ["d", "mask"] f fd
  d_masks_in_range : ∃ f fd, Def K mg "masks_in_range" s_masks_in_range ["masks", "most"] f fd
section
variable {P : Program} {w : World} {K : PySem.W.Frag} {mg : Str → Option Value} {base : Heap}
/-! ### all_below -/
def sp_all_below (K : PySem.W.Frag) : Sp := fun vs H Q _ => ∃ (a : Addr) (ns : List Int) (span : Int), vs = [.ref a, .int span] ∧ SqL K H a (ns.map V.int) ∧ Q (.bl (allB ns span)) H
theorem sc_all_below : FnScope ["numbers", "span", "number"] ["numbers", "span"] (defScope s_all_below) := ⟨rfl, rfl, rfl, by decide +kernel, rfl, by decide +kernel, by decide +kernel⟩
theorem ok_all_below {f : Addr} {fd : FuncData} {k : Nat} (D : Def K mg "all_below" s_all_below ["numbers", "span"] f fd) : FnOk P w K mg base CX0 (k + 1) f fd ["numbers", "span"] (sp_all_below K) := by
  refine D.F.ok sc_all_below (fun vs H Q E h => ?_) (fun cdv A outer s H vs Q E hr h => ?_)
  · obtain ⟨a, ns, span, rfl, _⟩ := h
    rfl
  · obtain ⟨a, ns, span, rfl, hS, q⟩ := h
    refine ⟨_, pss_cons (ps_for PassesOwn.never rfl (pi_list (pv 0)) (pg_name (i := 2) sc_all_below.nd rfl (.inl rfl))
        (pss_one (ps_if (PW.pt (pw_or (pt_cmpR op_lt (pv 2) pe_int (nomark _)) (pw_or1 (pt_cmpR op_ge (pv 2) (pv 1) (nomark _))))) (pss_one (ps_ret pe_bl)) pss_nil)))
      (pss_one (ps_ret pe_bl)), ?_⟩
    refine ⟨_, rfl, a, rfl, ⟨_, hS⟩, for_list (K := K) (a := a) (xs := ns.map V.int) (fun i σ H' => (∃ v, σ = [some (.ref a), some (.int span), v]) ∧ H' = H ∧ allB (ns.take i) span = true)
      ⟨⟨none, rfl⟩, rfl, rfl⟩ (fun i σ H' _ ⟨_, e, _⟩ => e ▸ hS) ?_ ?_⟩
    · rintro i y σ H' hi ⟨⟨v, rfl⟩, rfl, hb⟩
      obtain ⟨z, hz, rfl⟩ := int_at hi
      refine ⟨_, rfl, z, 0, rfl, rfl, _, rfl, ?_⟩
      by_cases c : z < 0
      · refine ift (decide_eq_true c) ?_
        rw [allB_not hz (by simp [c])] at q
        exact q
      · refine iff_ (decide_eq_false c) ?_
        refine ⟨_, rfl, _, rfl, z, span, rfl, rfl, _, rfl, ?_⟩
        by_cases c2 : span ≤ z
        · refine ift (decide_eq_true c2) ?_
          rw [allB_not hz (by simp [c2])] at q
          exact q
        · refine iff_ (decide_eq_false c2) ?_
          refine ⟨⟨_, rfl⟩, rfl, ?_⟩
          rw [allB_snoc hz, hb]
          simp [c, c2]
    · rintro σ H' ⟨⟨v, rfl⟩, rfl, hb⟩
      rw [List.length_map, List.take_length] at hb
      rw [hb] at q
      exact q
/-! ### masks_in_range -/
def sp_masks_in_range (K : PySem.W.Frag) : Sp := fun vs H Q _ => ∃ (a : Addr) (ns : List Int) (most : Int), vs = [.ref a, .int most] ∧ SqL K H a (ns.map V.int) ∧ Q (.bl (decide ((ns.length : Int) ≤ most) && allB ns 18446744073709551616)) H
theorem sc_masks_in_range : FnScope ["masks", "most"] ["masks", "most"] (defScope s_masks_in_range) := ⟨rfl, rfl, rfl, by decide +kernel, rfl, by decide +kernel, by decide +kernel⟩
theorem ok_masks_in_range {f : Addr} {fd : FuncData} {k : Nat} (T : Txt K mg) (D : Def K mg "masks_in_range" s_masks_in_range ["masks", "most"] f fd) : FnOk P w K mg base CX0 (k + 2) f fd ["masks", "most"] (sp_masks_in_range K) := by
  obtain ⟨fA, fdA, DA⟩ := T.d_all_below
  have GA : FnOk P w K mg base CX0 (k + 1) fA fdA ["numbers", "span"] (sp_all_below K) := ok_all_below DA
  refine D.F.ok sc_masks_in_range (fun vs H Q E h => ?_) (fun cdv A outer s H vs Q E hr h => ?_)
  · obtain ⟨a, ns, most, rfl, _⟩ := h
    rfl
  · obtain ⟨a, ns, most, rfl, hS, q⟩ := h
    refine ⟨_, pss_one (ps_ret (pe_and (pe_cmpR op_le (pe_callB call_len_seq (by rfl) T.m_len PySem.boot_len (pa_cons (pv 0) pa_nil)) (pv 1) (nomark _))
      (pe_one (pe_call GA hr rfl DA.g DA.F.kp DA.b .nil pass0 (pa_cons (pv 0) (pa_cons (pe_gi rfl T.g_LONG_SPAN) pa_nil)))))), ?_⟩
    refine ⟨_, rfl, a, _, rfl, .inl hS, _, rfl, _, _, rfl, rfl, _, rfl, ?_⟩
    rw [List.length_map]
    by_cases c : (ns.length : Int) ≤ most
    · refine ift (decide_eq_true c) ?_
      rw [decide_eq_true c, Bool.true_and] at q
      exact ⟨_, rfl, a, ns, _, rfl, hS, q⟩
    · refine iff_ (decide_eq_false c) ?_
      rw [decide_eq_false c, Bool.false_and] at q
      exact q
/-! ### starts_mask -/
def sp_starts_mask : Sp := fun vs H Q _ => ∃ (d m : Int), vs = [.int d, .int m] ∧ 0 ≤ d ∧ d ≤ 64 ∧ 0 ≤ m ∧ Q (.int (stI d m)) H
theorem sc_starts_mask : FnScope ["d", "mask", "starts", "further"] ["d", "mask"] (defScope s_starts_mask) := ⟨rfl, rfl, rfl, by decide +kernel, rfl, by decide +kernel, by decide +kernel⟩
theorem st_more (m : Nat) (i : Nat) : Builtin.bitAnd ((stN m i : Nat) : Int) ((m : Int) / 2 ^ ((0 + (i : Int)).toNat)) = ((stN m (i + 1) : Nat) : Int) := by
  have e0 : (0 + (i : Int)).toNat = i := by omega
  have e1 : ((m : Int) / 2 ^ i) = (((m >>> i : Nat)) : Int) := by
    rw [Nat.shiftRight_eq_div_pow]
    norm_cast
  rw [e0, e1, PyProof.Rows.bitAnd_pp (Int.natCast_nonneg _) (Int.natCast_nonneg _)]
  rfl
theorem ok_starts_mask {f : Addr} {fd : FuncData} {k : Nat} (T : Txt K mg) (D : Def K mg "starts_mask" s_starts_mask ["d", "mask"] f fd) : FnOk P w K mg base CX0 (k + 1) f fd ["d", "mask"] sp_starts_mask := by
  refine D.F.ok sc_starts_mask (fun vs H Q E h => ?_) (fun cdv A outer s H vs Q E hr h => ?_)
  · obtain ⟨d, m, rfl, _⟩ := h
    rfl
  · obtain ⟨d, m, rfl, h0, h64, hm, q⟩ := h
    refine ⟨_, pss_cons (ps_set (i := 2) sc_starts_mask.nd rfl (.inl rfl) (pe_gi rfl T.g_ALL_SLOTS))
      (pss_cons (ps_for PassesOwn.never rfl (pi_range1 rfl T.m_range (pa_cons (pv 0) pa_nil)) (pg_name (i := 3) sc_starts_mask.nd rfl (.inl rfl))
        (pss_one (ps_set (i := 2) sc_starts_mask.nd rfl (.inl rfl) (pe_op op_and (pv 2) (pe_op op_shr (pv 1) (pv 3))))))
      (pss_one (ps_ret (pv 2)))), ?_⟩
    obtain ⟨n, rfl⟩ := Int.eq_ofNat_of_zero_le h0
    obtain ⟨mm, rfl⟩ := Int.eq_ofNat_of_zero_le hm
    refine ⟨_, rfl, (n : Int), rfl, by omega, by omega, for_range (n := n) (fun i σ H' => (∃ v, σ = [some (.int (n : Int)), some (.int (mm : Int)), some (.int ((stN mm i : Nat) : Int)), v]) ∧ H' = H)
      ⟨⟨none, rfl⟩, rfl⟩ ?_ ?_⟩
    · rintro i σ H' hi ⟨⟨v, rfl⟩, rfl⟩
      refine ⟨_, rfl, _, rfl, _, rfl, _, _, rfl, rfl, by omega, _, _, rfl, rfl, ?_⟩
      refine ⟨⟨some (.int (0 + (i : Int))), ?_⟩, rfl⟩
      rw [← st_more]
      rfl
    · rintro σ H' ⟨⟨v, rfl⟩, rfl⟩
      exact ⟨_, rfl, q⟩
/-! ### np_starts -/
def sp_np_starts (K : PySem.W.Frag) : Sp := fun vs H Q _ => ∃ (d : Int) (a : Addr) (ns : List Int), vs = [.int d, .ref a] ∧ SqL K H a (ns.map V.int) ∧ 0 ≤ d ∧ ns.length ≤ 1027 ∧ (∀ x ∈ ns, 0 ≤ x ∧ x ≤ 18446744073709551615) ∧
  ∀ (H' : Hp) (p : Addr), H' p = some (.lst ((PySh73.np_starts d ns).map V.int)) → Q (.ref p) H'
theorem sc_np_starts : FnScope ["d", "l", "mask"] ["d", "l"] (defScope s_np_starts) := ⟨rfl, rfl, rfl, by decide +kernel, rfl, by decide +kernel, by decide +kernel⟩
theorem ok_np_starts {f : Addr} {fd : FuncData} (T : Txt K mg) (D : Def K mg "np_starts" s_np_starts ["d", "l"] f fd) : FnOk P w K mg base CX0 3 f fd ["d", "l"] (sp_np_starts K) := by
  obtain ⟨fA, fdA, DA⟩ := T.d_masks_in_range
  obtain ⟨fS, fdS, DS⟩ := T.d_starts_mask
  have GA : FnOk P w K mg base CX0 2 fA fdA ["masks", "most"] (sp_masks_in_range K) := ok_masks_in_range T DA
  have GS : FnOk P w K mg base CX0 2 fS fdS ["d", "mask"] sp_starts_mask := ok_starts_mask T DS
  refine D.F.ok sc_np_starts (fun vs H Q E h => ?_) (fun cdv A outer s H vs Q E hr h => ?_)
  · obtain ⟨d, a, ns, rfl, _⟩ := h
    rfl
  · obtain ⟨d, a, ns, rfl, hS, h0, hlen, hb, q⟩ := h
    refine ⟨_, pss_cons (ps_if (PW.pt (pw_or (pt_cmpR op_lt (pv 0) pe_int (nomark _)) (pw_or (pt_cmpR op_gt (pv 0) (pe_gi rfl T.g_SLOTS) (nomark _))
          (pw_or1 (pt_not (pt_val (pe_call GA hr rfl DA.g DA.F.kp DA.b .nil pass0 (pa_cons (pv 1) (pa_cons (pe_gi rfl T.g_MOST_MASKS) pa_nil))))))))) (pss_one (ps_ret (pe_lst (pa_cons (pe_gi rfl T.g_OUT_OF_RANGE) pa_nil)))) pss_nil)
      (pss_one (ps_ret (pe_op op_cat (pe_lst (pa_cons pe_int pa_nil))
        (pe_lc (own := [("mask", 2)]) (g := gName 2) (tt := tYes) rfl sc_np_starts.nd (pi_list (pv 1)) (blkOk_by (N := ["d", "l", "mask"]) (sc := defScope s_np_starts) (by decide +kernel))
          (fun _ _ _ _ _ => pg_name (i := 2) sc_np_starts.nd rfl (Or.inl rfl)) (fun _ _ _ _ _ => pts_nil)
          (fun _ _ _ _ _ => pe_call GS hr rfl DS.g DS.F.kp DS.b .nil pass0 (pa_cons (pv 0) (pa_cons (pv 2) pa_nil))))))), ?_⟩
    have few : ∀ H1, ∀ p, H1 p = some (.lst ((startsP d ns).map V.int)) → Q (.ref p) H1 := fun H1 p e => q H1 p (by rw [← starts_ok d ns h0 hb]; exact e)
    refine ⟨_, rfl, d, 0, rfl, rfl, _, rfl, ?_⟩
    refine iff_ (decide_eq_false (by omega)) ?_
    refine ⟨_, rfl, d, 64, rfl, rfl, _, rfl, ?_⟩
    by_cases c : 64 < d
    · refine ift (decide_eq_true c) ?_
      refine ⟨(by show 1 ≤ sizeLine; decide), fun p hp => few _ p ?_⟩
      rw [upd_same, startsP, if_pos (.inr c)]
      rfl
    · refine iff_ (decide_eq_false c) ?_
      have hall : allB ns 18446744073709551616 = true := allB_true fun x hx => by have := hb x hx; omega
      refine ⟨_, rfl, a, ns, _, rfl, hS, _, rfl, ?_⟩
      rw [hall, Bool.and_true]
      by_cases c2 : (1024 : Int) < (ns.length : Int)
      · rw [decide_eq_false (show ¬ (ns.length : Int) ≤ 1024 by omega)]
        refine ift (by rfl) ?_
        refine ⟨(by show 1 ≤ sizeLine; decide), fun p hp => few _ p ?_⟩
        rw [upd_same, startsP, if_neg (by omega), if_pos (.inl c2)]
        rfl
      · rw [decide_eq_true (show (ns.length : Int) ≤ 1024 by omega)]
        refine iff_ (by rfl) ?_
        refine ⟨(by show 1 ≤ sizeLine; decide), fun z hz => ?_⟩
        have s1 : Same H (upd H z (.lst [.int 0])) := new_same hz
        refine ⟨_, rfl, a, rfl, ⟨_, s1.seq hS⟩, fun B hB => ?_⟩
        have zB : z ≠ B := fun e => by
          rw [← e, upd_same] at hB
          cases hB
        have s2 : Same (upd H z (.lst [.int 0])) (upd (upd H z (.lst [.int 0])) B (.lst [])) := new_same hB
        refine lc_list (K := K) (a := a) (xs := ns.map V.int) (fun i H' => Same (upd H z (.lst [.int 0])) H' ∧ H' B = some (.lst (((ns.take i).map (stI d)).map V.int)))
          ⟨s2, upd_same⟩ (fun i H' _ ⟨e, _⟩ => e.seq (s1.seq hS)) ?_ ?_
        · rintro i y H' hi ⟨sm, eB⟩
          obtain ⟨x, hx, rfl⟩ := int_at hi
          have hx' := hb x (List.mem_of_getElem? hx)
          refine ⟨rfl, _, rfl, _, rfl, d, x, rfl, h0, by omega, hx'.1, _, eB, ?_, ?_, ?_⟩
          · rw [List.length_map, List.length_map, List.length_take]
            exact Nat.lt_of_le_of_lt (Nat.min_le_right _ _) (Nat.lt_of_le_of_lt hlen (by decide))
          · intro b o e
            rw [upd_ne (ne_of_none e hB)]
            exact sm b o e
          · rw [upd_same, take_snoc hx, List.map_append, List.map_append]
            rfl
        · rintro H' ⟨sm, eB⟩
          rw [List.length_map, List.take_length] at eB
          refine ⟨z, B, _, _, rfl, rfl, sm z _ upd_same, eB, ?_, fun p hp => ?_⟩
          · rw [List.length_map, List.length_map]
            exact Nat.le_trans (Nat.add_le_add_left hlen _) (by decide)
          · refine few _ p ?_
            rw [upd_same, startsP, if_neg (by omega), if_neg (by rw [hall]; simp; omega)]
            rfl
end
theorem all_mk {P : Program} {w : World} {K : PySem.W.Frag} {h : Heap} {mg : Str → Option Value} {fa f0 f1 f2 f3 : Addr} (X : K.In h) (G : h.Ns mainGlobals mg) (hfa : mg "np_starts" = some (.ref fa))
    {od0 an0 od1 an1 od2 an2 od3 an3 : Option Addr} {sl0 sl1 sl2 sl3 : Array (Option Value)} {oc0 kV0 dc0 pm0 cd0 ct0 oc1 kV1 dc1 pm1 cd1 ct1 oc2 kV2 dc2 pm2 cd2 ct2 oc3 kV3 dc3 pm3 cd3 ct3 : Value}
    {t_OUT_OF_RANGE t_SLOTS t_ALL_SLOTS t_LONG_SPAN t_MOST_MASKS : Tok}
    (g_OUT_OF_RANGE : PySem.W.nsIn K mainGlobals "OUT_OF_RANGE" = some (some (.int (-2) t_OUT_OF_RANGE)))
    (g_SLOTS : PySem.W.nsIn K mainGlobals "SLOTS" = some (some (.int 64 t_SLOTS)))
    (g_ALL_SLOTS : PySem.W.nsIn K mainGlobals "ALL_SLOTS" = some (some (.int 18446744073709551615 t_ALL_SLOTS)))
    (g_LONG_SPAN : PySem.W.nsIn K mainGlobals "LONG_SPAN" = some (some (.int 18446744073709551616 t_LONG_SPAN)))
    (g_MOST_MASKS : PySem.W.nsIn K mainGlobals "MOST_MASKS" = some (some (.int 1024 t_MOST_MASKS)))
    (m_len : PySem.W.nsIn K mainGlobals "len" = some none)
    (m_range : PySem.W.nsIn K mainGlobals "range" = some none)
    (a0 : PySem.W.nsIn K mainGlobals "all_below" = some (some (.ref f0))) (l0 : K.lookup f0 = some ⟨oc0, od0, .func (PySem.W.fnOf "all_below" "all_below" (defArgs s_all_below) (defBody s_all_below) (defScope s_all_below) .none kV0 dc0 pm0 an0 cd0 ct0), sl0⟩) (c0 : PySem.W.codeIn K cd0 "all_below" = true) (k0 : PySem.W.keepIn K (.ref f0) = true)
    (a1 : PySem.W.nsIn K mainGlobals "starts_mask" = some (some (.ref f1))) (l1 : K.lookup f1 = some ⟨oc1, od1, .func (PySem.W.fnOf "starts_mask" "starts_mask" (defArgs s_starts_mask) (defBody s_starts_mask) (defScope s_starts_mask) .none kV1 dc1 pm1 an1 cd1 ct1), sl1⟩) (c1 : PySem.W.codeIn K cd1 "starts_mask" = true) (k1 : PySem.W.keepIn K (.ref f1) = true)
    (a2 : PySem.W.nsIn K mainGlobals "masks_in_range" = some (some (.ref f2))) (l2 : K.lookup f2 = some ⟨oc2, od2, .func (PySem.W.fnOf "masks_in_range" "masks_in_range" (defArgs s_masks_in_range) (defBody s_masks_in_range) (defScope s_masks_in_range) .none kV2 dc2 pm2 an2 cd2 ct2), sl2⟩) (c2 : PySem.W.codeIn K cd2 "masks_in_range" = true) (k2 : PySem.W.keepIn K (.ref f2) = true)
    (a3 : PySem.W.nsIn K mainGlobals "np_starts" = some (some (.ref f3))) (l3 : K.lookup f3 = some ⟨oc3, od3, .func (PySem.W.fnOf "np_starts" "np_starts" (defArgs s_np_starts) (defBody s_np_starts) (defScope s_np_starts) .none kV3 dc3 pm3 an3 cd3 ct3), sl3⟩) (c3 : PySem.W.codeIn K cd3 "np_starts" = true) (k3 : PySem.W.keepIn K (.ref f3) = true) :
    ∃ fd : FuncData, (∀ (s : Shared) (us : List Value), us.length = (["d", "l"] : List Str).length → BindsTo s fd ⟨us, []⟩ ((["d", "l"] : List Str).zip us)) ∧ ∀ base : Heap, K.In base → base.Ns mainGlobals mg → FnOk P w K mg base CX0 3 fa fd ["d", "l"] (sp_np_starts K) := by
  have e := hfa.symm.trans (PySem.W.mg_of X G a3)
  cases e
  have F0 := fun_mk (st := s_all_below) l0 c0 k0
  have b0 := F0.binds (ps := ["numbers", "span"]) fun _ _ _ _ _ _ us hl => match us, hl with | [_, _], _ => rfl
  have F1 := fun_mk (st := s_starts_mask) l1 c1 k1
  have b1 := F1.binds (ps := ["d", "mask"]) fun _ _ _ _ _ _ us hl => match us, hl with | [_, _], _ => rfl
  have F2 := fun_mk (st := s_masks_in_range) l2 c2 k2
  have b2 := F2.binds (ps := ["masks", "most"]) fun _ _ _ _ _ _ us hl => match us, hl with | [_, _], _ => rfl
  have F3 := fun_mk (st := s_np_starts) l3 c3 k3
  have b3 := F3.binds (ps := ["d", "l"]) fun _ _ _ _ _ _ us hl => match us, hl with | [_, _], _ => rfl
  have T : Txt K mg := ⟨⟨_, PySem.W.mg_of X G g_OUT_OF_RANGE⟩, ⟨_, PySem.W.mg_of X G g_SLOTS⟩, ⟨_, PySem.W.mg_of X G g_ALL_SLOTS⟩, ⟨_, PySem.W.mg_of X G g_LONG_SPAN⟩, ⟨_, PySem.W.mg_of X G g_MOST_MASKS⟩, PySem.W.mg_none_of X G m_len, PySem.W.mg_none_of X G m_range, ⟨_, _, F0, b0, PySem.W.mg_of X G a0⟩, ⟨_, _, F1, b1, PySem.W.mg_of X G a1⟩, ⟨_, _, F2, b2, PySem.W.mg_of X G a2⟩⟩
  exact ⟨PySem.W.fnOf "np_starts" "np_starts" (defArgs s_np_starts) (defBody s_np_starts) (defScope s_np_starts) .none kV3 dc3 pm3 an3 cd3 ct3, fun s us hu => match us, hu with | [_, _], _ => .of_eq rfl, fun base _ _ => ok_np_starts T ⟨F3, b3, PySem.W.mg_of X G a3⟩⟩
end NP
open PySem PySem.W PyProof.Rows
set_option maxRecDepth 100000 in
set_option maxHeartbeats 8000000 in
theorem PySem.Challenge.cw_nightplan_s02_np_starts_holds : PySem.Challenge.rw_nightplan_s02_np_starts.Holds := by
  w_on; k_headS; (case hw => exact ⟨[.int 0, .list []], by decide +kernel, by decide +kernel⟩)
  k_fillS
  refine L2.walk_specK (r := PySem.Challenge.rw_nightplan_s02_np_starts) (k := 3) (CX := L2.CX0) (ps := ["d", "l"]) (sp := NP.sp_np_starts) (by decide +kernel) rfl rfl ⟨rfl, by decide, by decide⟩ (fun w h Y => PySem.W.kIn_of Y) ?F ?S (fun _ _ _ _ z => z)
  case F =>
    intro w mg fa h Y KX G hmg
    refine' NP.all_mk KX G hmg ?g_OUT_OF_RANGE ?g_SLOTS ?g_ALL_SLOTS ?g_LONG_SPAN ?g_MOST_MASKS ?m_len ?m_range ?a0 ?l0 ?c0 ?k0 ?a1 ?l1 ?c1 ?k1 ?a2 ?l2 ?c2 ?k2 ?a3 ?l3 ?c3 ?k3
    (case g_OUT_OF_RANGE => k_is)
    (case g_SLOTS => k_is)
    (case g_ALL_SLOTS => k_is)
    (case g_LONG_SPAN => k_is)
    (case g_MOST_MASKS => k_is)
    (case m_len => k_is)
    (case m_range => k_is)
    (case a0 => k_is)
    (case l0 => k_is)
    (case c0 => k_is)
    (case k0 => k_is)
    (case a1 => k_is)
    (case l1 => k_is)
    (case c1 => k_is)
    (case k1 => k_is)
    (case a2 => k_is)
    (case l2 => k_is)
    (case c2 => k_is)
    (case k2 => k_is)
    (case a3 => k_is)
    (case l3 => k_is)
    (case c3 => k_is)
    (case k3 => k_is)
  case S =>
    intro K H xs a hO hwi hask hx
    obtain ⟨d, l, u⟩ := a
    cases hx with
    | cons h1 h2 =>
      cases h2 with
      | cons h3 h4 =>
        cases h4
        cases h1
        cases h3 with
        | lst hs ha =>
          have e := L2.ints_dw l _ ha
          subst e
          have q : (Codec.inInt 0 4294967295 d && ((Codec.inLen 0 1027 l && l.all (Codec.inInt 0 18446744073709551615)) && true)) = true := hwi
          rw [Bool.and_eq_true, Bool.and_eq_true, Bool.and_eq_true, List.all_eq_true] at q
          exact ⟨d, _, l, rfl, hs, (Codec.inInt_iff.mp q.1).1, (Codec.inNat_iff.mp q.2.1.1).2, fun x hx => Codec.inInt_iff.mp (q.2.1.2 x hx), fun H' p hp => .lst (L2.SqL.of hp) (L2.dw_ints _)⟩
#print axioms PySem.Challenge.cw_nightplan_s02_np_starts_holds

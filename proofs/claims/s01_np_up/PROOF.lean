import PyProof.Rows.All
import Wide.All
import OpenK.AllK
import Wide.FinOn
import Open.SpecLaws
import KE.OsGo
import HandS.Base
import HandS.Call
import HandS.List
import HandS.Comp
import HandS.Ends
import HandS.Spec
import HandS.Words
import HandS.Iter
import HandS.Text
import HandS.Walk
import PySem.Challenge.RW_nightplan_s01_np_up
set_option Elab.async false
set_option maxRecDepth 100000
set_option maxHeartbeats 2000000
namespace NP
section
open Sh73
/-! ### masks -/
theorem ofBits_fold (f : Nat → Bool) : ∀ n : Nat, let r := (List.range n).foldl (fun (a : Nat) (i : Nat) => if f i = true then a + 2 ^ i else a) 0
    r < 2 ^ n ∧ ∀ i, r.testBit i = (decide (i < n) && f i)
  | 0 => ⟨Nat.zero_lt_one, fun i => by simp⟩
  | n + 1 => by
    have ih := ofBits_fold f n
    simp only at ih ⊢
    rw [List.range_succ, List.foldl_append]
    generalize (List.range n).foldl (fun (a : Nat) (i : Nat) => if f i = true then a + 2 ^ i else a) 0 = r at ih ⊢
    obtain ⟨h1, h2⟩ := ih
    simp only [List.foldl_cons, List.foldl_nil]
    have hp : 2 ^ (n + 1) = 2 ^ n + 2 ^ n := by rw [Nat.pow_succ]; omega
    cases hf : f n with
    | false =>
      simp only [Bool.false_eq_true, if_false]
      refine ⟨by omega, fun i => ?_⟩
      rw [h2]
      by_cases hi : i = n
      · subst hi
        simp [hf]
      · have : decide (i < n + 1) = decide (i < n) := decide_eq_decide.mpr (by omega)
        rw [this]
    | true =>
      simp only [if_true]
      refine ⟨by omega, fun i => ?_⟩
      rw [Nat.add_comm]
      by_cases hi : i = n
      · subst hi
        rw [Nat.testBit_two_pow_add_eq, h2]
        simp [hf]
      · by_cases hlt : i < n
        · rw [Nat.testBit_two_pow_add_gt hlt, h2]
          have : decide (i < n + 1) = decide (i < n) := decide_eq_decide.mpr (by omega)
          rw [this]
        · have hb : 2 ^ n + r < 2 ^ i := by
            have : 2 ^ (n + 1) ≤ 2 ^ i := Nat.pow_le_pow_right (by decide) (by omega)
            omega
          rw [Nat.testBit_lt_two_pow hb]
          have : decide (i < n + 1) = false := decide_eq_false (by omega)
          rw [this]
          rfl
theorem ofBits_lt (f : Nat → Bool) : ofBits f < 2 ^ 64 := (ofBits_fold f 64).1
theorem ofBits_bit (f : Nat → Bool) (i : Nat) : (ofBits f).testBit i = (decide (i < 64) && f i) := (ofBits_fold f 64).2 i
/-! ### starts -/
def stN (m : Nat) : Nat → Nat
  | 0 => 18446744073709551615
  | j + 1 => stN m j &&& (m >>> j)
theorem stN_bit (m : Nat) : ∀ d i : Nat, (stN m d).testBit i = (decide (i < 64) && (List.range d).all fun j => m.testBit (i + j))
  | 0, i => by
    show Nat.testBit (2 ^ 64 - 1) i = _
    rw [Nat.testBit_two_pow_sub_one]
    simp
  | d + 1, i => by
    show (stN m d &&& (m >>> d)).testBit i = _
    rw [Nat.testBit_and, stN_bit m d i, Nat.testBit_shiftRight, List.range_succ, List.all_append, Nat.add_comm d i]
    simp [Bool.and_assoc]
theorem bit_big {m i : Nat} (h : m < 2 ^ 64) (hi : 64 ≤ i) : m.testBit i = false :=
  Nat.testBit_lt_two_pow (Nat.lt_of_lt_of_le h (Nat.pow_le_pow_right (by decide) hi))
theorem starts_is {m : Nat} (h : m < 2 ^ 64) (d : Nat) : starts d m = stN m d := by
  refine Nat.eq_of_testBit_eq fun i => ?_
  unfold starts
  rw [ofBits_bit, stN_bit]
  unfold has
  by_cases hi : i < 64
  · by_cases hd : i + d ≤ 64
    · simp [hi, hd, SLOTS]
    · have h1 : decide (i + d ≤ SLOTS) = false := decide_eq_false hd
      rw [h1, Bool.false_and, Bool.and_false]
      have h2 : (List.range d).all (fun j => m.testBit (i + j)) = false := by
        rw [List.all_eq_false]
        exact ⟨d - 1, List.mem_range.mpr (by omega), by rw [bit_big h (by omega)]; decide⟩
      rw [h2, Bool.and_false]
  · simp [hi]
theorem stN_lt (m : Nat) : ∀ d, stN m d < 2 ^ 64
  | 0 => by show 18446744073709551615 < 2 ^ 64; decide
  | d + 1 => Nat.lt_of_le_of_lt Nat.and_le_left (stN_lt m d)
end
end NP
/-! ### words that every def's proof uses -/
namespace NP
open PySem PySem.Spec PyProof.Rows L2
open PySem.W (Codec)
theorem ift {c : Bool} {A B : Prop} (hc : c = true) (h : A) : if c = true then A else B := by
  subst hc
  exact h
theorem iff_ {c : Bool} {A B : Prop} (hc : c = false) (h : B) : if c = true then A else B := by
  subst hc
  exact h
theorem take_snoc {α : Type} {l : List α} {i : Nat} {x : α} (h : l[i]? = some x) : l.take (i + 1) = l.take i ++ [x] := by
  rw [List.take_add_one, h]
  rfl
theorem int_at {ns : List Int} {i : Nat} {y : V} (hi : (ns.map V.int)[i]? = some y) : ∃ z, ns[i]? = some z ∧ y = V.int z := by
  rw [List.getElem?_map, Option.map_eq_some_iff] at hi
  obtain ⟨z, h1, h2⟩ := hi
  exact ⟨z, h1, h2.symm⟩
theorem new_same {H : Hp} {p : Addr} {o : HO} (h : H p = none) : Same H (upd H p o) := fun _ _ e => (upd_ne (ne_of_none e h)).trans e
/-- a list that grows at a place that was new stays apart from what stood -/
theorem grow_same {H H' : Hp} {D : Addr} {o : HO} (hD : H D = none) (s : Same H H') : Same H (upd H' D o) := fun b x e => (upd_ne (ne_of_none e hD)).trans (s b x e)
theorem pe_gi {X : Cx} {x : Str} {i : Int} {pos : Pos} (hg : Gl X x) (hm : ∃ t, X.mg x = some (.int i t)) (hd : (x == ("__debug__" : Str)) = false := by decide) : PE X (.Name x pos) (tC (.int i)) :=
  hm.elim fun t e => pe_glob (v := .int i) hg e ⟨t, rfl⟩ hd
def allB (ns : List Int) (span : Int) : Bool := ns.all fun x => !(decide (x < 0) || decide (span ≤ x))
theorem allB_snoc {ns : List Int} {span z : Int} {i : Nat} (h : ns[i]? = some z) : allB (ns.take (i + 1)) span = (allB (ns.take i) span && !(decide (z < 0) || decide (span ≤ z))) := by
  unfold allB
  rw [take_snoc h, List.all_append]
  simp
theorem allB_not {ns : List Int} {span z : Int} {i : Nat} (h : ns[i]? = some z) (hz : (decide (z < 0) || decide (span ≤ z)) = true) : allB ns span = false := by
  unfold allB
  rw [List.all_eq_false]
  exact ⟨z, List.mem_of_getElem? h, by rw [hz]; decide⟩
theorem allB_true {ns : List Int} {span : Int} (h : ∀ x ∈ ns, 0 ≤ x ∧ x < span) : allB ns span = true := by
  unfold allB
  rw [List.all_eq_true]
  intro x hx
  have := h x hx
  simp
  omega
end NP
/-! ### np_up as the program says it -/
namespace NP
section
open Sh73
def sgn (n span : Int) : Int := if span / 2 ≤ n then n - span else n
def smallB (ns : List Int) : Bool := ns.all fun x => !(decide (16777216 < (if x < 0 then -x else x)))
abbrev Tri : Type := Int × Int × Int
def triAt (ns : List Int) (i : Nat) : Tri := (ns.getD (3 * i) 0, ns.getD (3 * i + 1) 0, ns.getD (3 * i + 2) 0)
def thr (ns : List Int) : List Tri := (List.range (ns.length / 3)).map (triAt ns)
def dotP (a b : Tri) : Int := a.1 * b.1 + a.2.1 * b.2.1 + a.2.2 * b.2.2
def upN (t : Int) (zs : List Tri) (w : Tri) : Nat → Nat
  | 0 => 0
  | i + 1 => if t ≤ dotP w (zs.getD i (0, 0, 0)) then upN t zs w i ||| 2 ^ i else upN t zs w i
theorem upN_bit (t : Int) (zs : List Tri) (w : Tri) : ∀ n i : Nat, (upN t zs w n).testBit i = (decide (i < n) && decide (t ≤ dotP w (zs.getD i (0, 0, 0))))
  | 0, i => by
    show Nat.testBit 0 i = _
    simp
  | n + 1, i => by
    unfold upN
    by_cases c : t ≤ dotP w (zs.getD n (0, 0, 0))
    · rw [if_pos c, Nat.testBit_or, upN_bit t zs w n i, Nat.testBit_two_pow]
      by_cases e : n = i
      · subst e
        rw [decide_eq_true rfl, Bool.or_true, decide_eq_true c, decide_eq_true (Nat.lt_succ_self n)]
        rfl
      · have h1 : decide (n = i) = false := decide_eq_false e
        have h2 : decide (i < n + 1) = decide (i < n) := decide_eq_decide.mpr (by omega)
        rw [h1, h2, Bool.or_false]
    · rw [if_neg c, upN_bit t zs w n i]
      by_cases e : n = i
      · subst e
        rw [decide_eq_false c, Bool.and_false, Bool.and_false]
      · have h2 : decide (i < n + 1) = decide (i < n) := decide_eq_decide.mpr (by omega)
        rw [h2]
def upP (t : Int) (z l : List Int) : List Int :=
  if ¬ ((z.length : Int) ≤ 192 ∧ (l.length : Int) ≤ 3072) then [-2]
  else if smallB (z.map (sgn · 4294967296)) = false ∨ smallB (l.map (sgn · 4294967296)) = false then [-3]
  else 0 :: (thr (l.map (sgn · 4294967296))).map fun w => ((upN (sgn t 18446744073709551616) (thr (z.map (sgn · 4294967296))) w (z.length / 3) : Nat) : Int)
theorem sgn32 {x : Int} (h0 : 0 ≤ x) : sgn x 4294967296 = signed32 x.toNat := by
  unfold sgn signed32
  split <;> split <;> omega
theorem sgn64 {x : Int} (h0 : 0 ≤ x) : sgn x 18446744073709551616 = signed64 x.toNat := by
  unfold sgn signed64
  split <;> split <;> omega
def wayOf (w : Tri) : Way := ⟨w.1, w.2.1, w.2.2⟩
theorem getD_sgn {z : List Int} (h : ∀ x ∈ z, 0 ≤ x) (j : Nat) (hj : j < z.length) : (z.map (sgn · 4294967296)).getD j 0 = signed32 (num (Sh73Neutral.nats z) j) := by
  unfold num Sh73Neutral.nats
  rw [List.getD_eq_getElem?_getD, List.getD_eq_getElem?_getD, List.getElem?_map, List.getElem?_map, List.getElem?_eq_getElem hj]
  exact sgn32 (h _ (List.getElem_mem hj))
theorem ways_thr {z : List Int} (h : ∀ x ∈ z, 0 ≤ x) (h3 : z.length = 3 * (z.length / 3)) : ways (Sh73Neutral.nats z) = (thr (z.map (sgn · 4294967296))).map wayOf := by
  unfold ways thr
  have e1 : (Sh73Neutral.nats z).length = z.length := List.length_map ..
  have e2 : (z.map (sgn · 4294967296)).length = z.length := List.length_map ..
  rw [e1, e2, List.map_map]
  refine List.map_congr_left fun i hi => ?_
  have hi' := List.mem_range.mp hi
  unfold triAt wayOf
  simp only [Function.comp]
  rw [getD_sgn h _ (by omega), getD_sgn h _ (by omega), getD_sgn h _ (by omega)]
theorem abs_le (x : Int) : (!(decide (16777216 < (if x < 0 then -x else x)))) = decide (x.natAbs ≤ 16777216) := by
  by_cases c : x.natAbs ≤ 16777216
  · rw [decide_eq_true c, decide_eq_false (by split <;> omega)]
    rfl
  · rw [decide_eq_false c, decide_eq_true (by split <;> omega)]
    rfl
theorem fine_iff (w : Tri) : fine (wayOf w) = true ↔ w.1.natAbs ≤ 16777216 ∧ w.2.1.natAbs ≤ 16777216 ∧ w.2.2.natAbs ≤ 16777216 := by
  unfold fine wayOf
  simp
theorem small_thr {ns : List Int} (h3 : ns.length = 3 * (ns.length / 3)) : ((thr ns).map wayOf).all fine = smallB ns := by
  rw [Bool.eq_iff_iff, List.all_eq_true, smallB, List.all_eq_true]
  constructor
  · intro h x hx
    rw [abs_le, decide_eq_true_eq]
    obtain ⟨j, hj, rfl⟩ := List.mem_iff_getElem.mp hx
    have hm : triAt ns (j / 3) ∈ thr ns := List.mem_map.mpr ⟨j / 3, List.mem_range.mpr (by omega), rfl⟩
    have hf := (fine_iff _).mp (h _ (List.mem_map_of_mem hm))
    unfold triAt at hf
    have hr : j = 3 * (j / 3) ∨ j = 3 * (j / 3) + 1 ∨ j = 3 * (j / 3) + 2 := by omega
    have g : ∀ k, k = j → ns.getD k 0 = ns[j] := fun k e => by
      subst e
      rw [List.getD_eq_getElem?_getD, List.getElem?_eq_getElem hj]
      rfl
    rcases hr with e | e | e
    · rw [← g _ e.symm]; exact hf.1
    · rw [← g _ e.symm]; exact hf.2.1
    · rw [← g _ e.symm]; exact hf.2.2
  · intro h v hv
    obtain ⟨w, hw, rfl⟩ := List.mem_map.mp hv
    obtain ⟨i, hi, rfl⟩ := List.mem_map.mp hw
    have hi' := List.mem_range.mp hi
    rw [fine_iff]
    have g : ∀ k, k < ns.length → (ns.getD k 0).natAbs ≤ 16777216 := fun k hk => by
      rw [List.getD_eq_getElem?_getD, List.getElem?_eq_getElem hk]
      have := h _ (List.getElem_mem hk)
      rw [abs_le, decide_eq_true_eq] at this
      exact this
    exact ⟨g _ (by omega), g _ (by omega), g _ (by omega)⟩
theorem dot_is (a b : Tri) : dot (wayOf a) (wayOf b) = dotP b a := by
  unfold dot wayOf dotP
  simp only
  rw [Int.mul_comm a.1, Int.mul_comm a.2.1, Int.mul_comm a.2.2]
theorem up_is (t : Int) (zs : List Tri) (w : Tri) (h : zs.length ≤ 64) : up t (zs.map wayOf) (wayOf w) = upN t zs w zs.length := by
  refine Nat.eq_of_testBit_eq fun i => ?_
  unfold up
  rw [ofBits_bit, upN_bit, List.getElem?_map]
  by_cases hi : i < zs.length
  · rw [List.getElem?_eq_getElem hi, List.getD_eq_getElem?_getD, List.getElem?_eq_getElem hi]
    simp only [Option.map_some, Option.getD_some, dot_is]
    have h1 : decide (i < 64) = true := decide_eq_true (by omega)
    have h2 : decide (i < zs.length) = true := decide_eq_true hi
    rw [h1, h2]
  · rw [List.getElem?_eq_none (by omega)]
    have h2 : decide (i < zs.length) = false := decide_eq_false hi
    rw [h2]
    simp
theorem thr_len (ns : List Int) : (thr ns).length = ns.length / 3 := by
  unfold thr
  rw [List.length_map, List.length_range]
theorem up_ok (t : Int) (z l : List Int) (ht : 0 ≤ t) (hz : ∀ x ∈ z, 0 ≤ x) (hl : ∀ x ∈ l, 0 ≤ x) (z3 : z.length = 3 * (z.length / 3)) (l3 : l.length = 3 * (l.length / 3)) : upP t z l = PySh73.np_up t z l := by
  have e1 : (Sh73Neutral.nats z).length = z.length := List.length_map ..
  have e2 : (Sh73Neutral.nats l).length = l.length := List.length_map ..
  have m1 : (z.map (sgn · 4294967296)).length = z.length := List.length_map ..
  have m2 : (l.map (sgn · 4294967296)).length = l.length := List.length_map ..
  unfold upP PySh73.np_up Sh73Neutral.f
  simp only [Sh73Neutral.callOf, Sh73.few, e1, e2]
  by_cases c : (z.length : Int) ≤ 192 ∧ (l.length : Int) ≤ 3072
  · rw [if_neg (by simpa using c)]
    have h1 : decide (l.length / 3 ≤ 1024) = true := decide_eq_true (by omega)
    have h2 : decide (z.length / 3 ≤ 64) = true := decide_eq_true (by omega)
    rw [h1, h2]
    simp only [Bool.and_self, if_true, Sh73.answer]
    rw [ways_thr hz z3, ways_thr hl l3, small_thr (by rw [m1]; exact z3), small_thr (by rw [m2]; exact l3)]
    by_cases d : smallB (z.map (sgn · 4294967296)) = false ∨ smallB (l.map (sgn · 4294967296)) = false
    · rw [if_pos d, if_pos d]
      rfl
    · rw [if_neg d, if_neg d]
      simp only [Sh73.done, Sh73Neutral.told, Sh73Neutral.ints, List.map_map]
      refine congrArg (0 :: ·) (List.map_congr_left fun w hw => ?_)
      simp only [Function.comp]
      rw [sgn64 ht, up_is _ _ _ (by rw [thr_len, m1]; omega), thr_len, m1]
  · rw [if_pos c]
    by_cases h1 : l.length / 3 ≤ 1024
    · have h2 : decide (z.length / 3 ≤ 64) = false := decide_eq_false (by omega)
      rw [h2, Bool.and_false]
      rfl
    · rw [decide_eq_false h1, Bool.false_and]
      rfl
end
end NP
namespace NP
open PySem PySem.Spec PyProof.Rows L2
open PySem.W (Codec)
def top (i : Nat) : Stmt := PySem.Challenge.pw_nightplan_s01_np_up.main.body.getD i (.Pass ⟨0, 0, 0, 0⟩)
abbrev s_all_below : Stmt := top 8
abbrev s_signed : Stmt := top 9
abbrev s_signed_words : Stmt := top 10
abbrev s_words_in_range : Stmt := top 11
abbrev s_all_small : Stmt := top 12
abbrev s_in_threes : Stmt := top 13
abbrev s_along : Stmt := top 14
abbrev s_up_mask : Stmt := top 15
abbrev s_np_up : Stmt := top 16
/-- a def as the top has left it: its text, how it binds, its name -/
structure Def (K : PySem.W.Frag) (mg : Str → Option Value) (x : Str) (st : Stmt) (ps : List Str) (f : Addr) (fd : FuncData) : Prop where
  F : Fun K x x st f fd
  b : Binds K fd ps []
  g : mg x = some (.ref f)
structure Txt (K : PySem.W.Frag) (mg : Str → Option Value) : Prop where
  g_OUT_OF_RANGE : ∃ t, mg "OUT_OF_RANGE" = some (.int (-2) t)
  g_WAY_TOO_LONG : ∃ t, mg "WAY_TOO_LONG" = some (.int (-3) t)
  g_WORD_SPAN : ∃ t, mg "WORD_SPAN" = some (.int 4294967296 t)
  g_LONG_SPAN : ∃ t, mg "LONG_SPAN" = some (.int 18446744073709551616 t)
  g_MOST_ZENITHS : ∃ t, mg "MOST_ZENITHS" = some (.int 64 t)
  g_MOST_WAYS : ∃ t, mg "MOST_WAYS" = some (.int 1024 t)
  g_GREATEST_SIZE : ∃ t, mg "GREATEST_SIZE" = some (.int 16777216 t)
  m_abs : mg "abs" = none
  m_enumerate : mg "enumerate" = none
  m_len : mg "len" = none
  m_range : mg "range" = none
  d_all_below : ∃ f fd, Def K mg "all_below" s_all_below ["numbers", "span"] f fd
  d_signed : ∃ f fd, Def K mg "signed" s_signed ["number", "span"] f fd
  d_signed_words : ∃ f fd, Def K mg "signed_words" s_signed_words ["words"] f fd
  d_words_in_range : ∃ f fd, Def K mg "words_in_range" s_words_in_range ["words", "most"] f fd
  d_all_small : ∃ f fd, Def K mg "all_small" s_all_small ["numbers"] f fd
  d_in_threes : ∃ f fd, Def K mg "in_threes" s_in_threes ["numbers"] f fd
  d_along : ∃ f fd, Def K mg "along" s_along ["way", "other"] f fd
  d_up_mask : ∃ f fd, Def K mg "up_mask" s_up_mask ["least", "zeniths", "way"] f fd
section
variable {P : Program} {w : World} {K : PySem.W.Frag} {mg : Str → Option Value} {base : Heap}
/-! ### all_below -/
def sp_all_below (K : PySem.W.Frag) : Sp := fun vs H Q _ => ∃ (a : Addr) (ns : List Int) (span : Int), vs = [.ref a, .int span] ∧ SqL K H a (ns.map V.int) ∧ Q (.bl (allB ns span)) H
theorem sc_all_below : FnScope ["numbers", "span", "number"] ["numbers", "span"] (defScope s_all_below) := ⟨rfl, rfl, rfl, by decide +kernel, rfl, by decide +kernel, by decide +kernel⟩
theorem ok_all_below {f : Addr} {fd : FuncData} {k : Nat} (D : Def K mg "all_below" s_all_below ["numbers", "span"] f fd) : FnOk P w K mg base CX0 (k + 1) f fd ["numbers", "span"] (sp_all_below K) := by
  refine D.F.ok sc_all_below (fun vs H Q E h => ?_) (fun cdv A outer s H vs Q E hr h => ?_)
  · obtain ⟨a, ns, span, rfl, _⟩ := h
    rfl
  · obtain ⟨a, ns, span, rfl, hS, q⟩ := h
    refine ⟨_, pss_cons (ps_for PassesOwn.never rfl (pi_list (pv 0)) (pg_name (i := 2) sc_all_below.nd rfl (.inl rfl))
        (pss_one (ps_if (PW.pt (pw_or (pt_cmpR op_lt (pv 2) pe_int (nomark _)) (pw_or1 (pt_cmpR op_ge (pv 2) (pv 1) (nomark _))))) (pss_one (ps_ret pe_bl)) pss_nil)))
      (pss_one (ps_ret pe_bl)), ?_⟩
    refine ⟨_, rfl, a, rfl, ⟨_, hS⟩, for_list (K := K) (a := a) (xs := ns.map V.int) (fun i σ H' => (∃ v, σ = [some (.ref a), some (.int span), v]) ∧ H' = H ∧ allB (ns.take i) span = true)
      ⟨⟨none, rfl⟩, rfl, rfl⟩ (fun i σ H' _ ⟨_, e, _⟩ => e ▸ hS) ?_ ?_⟩
    · rintro i y σ H' hi ⟨⟨v, rfl⟩, rfl, hb⟩
      obtain ⟨z, hz, rfl⟩ := int_at hi
      refine ⟨_, rfl, z, 0, rfl, rfl, _, rfl, ?_⟩
      by_cases c : z < 0
      · refine ift (decide_eq_true c) ?_
        rw [allB_not hz (by simp [c])] at q
        exact q
      · refine iff_ (decide_eq_false c) ?_
        refine ⟨_, rfl, _, rfl, z, span, rfl, rfl, _, rfl, ?_⟩
        by_cases c2 : span ≤ z
        · refine ift (decide_eq_true c2) ?_
          rw [allB_not hz (by simp [c2])] at q
          exact q
        · refine iff_ (decide_eq_false c2) ?_
          refine ⟨⟨_, rfl⟩, rfl, ?_⟩
          rw [allB_snoc hz, hb]
          simp [c, c2]
    · rintro σ H' ⟨⟨v, rfl⟩, rfl, hb⟩
      rw [List.length_map, List.take_length] at hb
      rw [hb] at q
      exact q
/-! ### signed -/
def sp_signed : Sp := fun vs H Q _ => ∃ (n span : Int), vs = [.int n, .int span] ∧ Q (.int (sgn n span)) H
theorem sc_signed : FnScope ["number", "span"] ["number", "span"] (defScope s_signed) := ⟨rfl, rfl, rfl, by decide +kernel, rfl, by decide +kernel, by decide +kernel⟩
theorem ok_signed {f : Addr} {fd : FuncData} {k : Nat} (D : Def K mg "signed" s_signed ["number", "span"] f fd) : FnOk P w K mg base CX0 (k + 1) f fd ["number", "span"] sp_signed := by
  refine D.F.ok sc_signed (fun vs H Q E h => ?_) (fun cdv A outer s H vs Q E hr h => ?_)
  · obtain ⟨n, span, rfl, _⟩ := h
    rfl
  · obtain ⟨n, span, rfl, q⟩ := h
    refine ⟨_, pss_cons (ps_if (pt_cmpR op_ge (pv 0) (pe_op op_fdiv (pv 1) pe_int) (nomark _)) (pss_one (ps_ret (pe_op op_sub (pv 0) (pv 1)))) pss_nil) (pss_one (ps_ret (pv 0))), ?_⟩
    refine ⟨_, rfl, _, rfl, span, 2, rfl, rfl, ⟨by decide, by decide⟩, n, span / 2, rfl, rfl, _, rfl, ?_⟩
    unfold sgn at q
    by_cases c : span / 2 ≤ n
    · refine ift (decide_eq_true c) ?_
      rw [if_pos c] at q
      exact ⟨_, rfl, _, rfl, _, _, rfl, rfl, q⟩
    · refine iff_ (decide_eq_false c) ?_
      rw [if_neg c] at q
      exact ⟨_, rfl, q⟩
/-! ### signed_words -/
def sp_signed_words (K : PySem.W.Frag) : Sp := fun vs H Q _ => ∃ (a : Addr) (ns : List Int), vs = [.ref a] ∧ SqL K H a (ns.map V.int) ∧ ns.length ≤ 10000 ∧
  ∀ (H' : Hp) (p : Addr), Same H H' → H p = none → H' p = some (.lst ((ns.map (sgn · 4294967296)).map V.int)) → Q (.ref p) H'
theorem sc_signed_words : FnScope ["words", "word"] ["words"] (defScope s_signed_words) := ⟨rfl, rfl, rfl, by decide +kernel, rfl, by decide +kernel, by decide +kernel⟩
theorem ok_signed_words {f : Addr} {fd : FuncData} {k : Nat} (T : Txt K mg) (D : Def K mg "signed_words" s_signed_words ["words"] f fd) : FnOk P w K mg base CX0 (k + 2) f fd ["words"] (sp_signed_words K) := by
  obtain ⟨fS, fdS, DS⟩ := T.d_signed
  have GS : FnOk P w K mg base CX0 (k + 1) fS fdS ["number", "span"] sp_signed := ok_signed DS
  refine D.F.ok sc_signed_words (fun vs H Q E h => ?_) (fun cdv A outer s H vs Q E hr h => ?_)
  · obtain ⟨a, ns, rfl, _⟩ := h
    rfl
  · obtain ⟨a, ns, rfl, hS, hlen, q⟩ := h
    refine ⟨_, pss_one (ps_ret (pe_lc (own := [("word", 1)]) (g := gName 1) (tt := tYes) rfl sc_signed_words.nd (pi_list (pv 0)) (blkOk_by (N := ["words", "word"]) (sc := defScope s_signed_words) (by decide +kernel))
          (fun _ _ _ _ _ => pg_name (i := 1) sc_signed_words.nd rfl (Or.inl rfl)) (fun _ _ _ _ _ => pts_nil)
          (fun _ _ _ _ _ => pe_call GS hr rfl DS.g DS.F.kp DS.b .nil pass0 (pa_cons (pv 1) (pa_cons (pe_gi rfl T.g_WORD_SPAN) pa_nil))))), ?_⟩
    refine ⟨_, rfl, a, rfl, ⟨_, hS⟩, fun B hB => ?_⟩
    refine lc_list (K := K) (a := a) (xs := ns.map V.int) (fun i H' => Same H H' ∧ H' B = some (.lst (((ns.take i).map (sgn · 4294967296)).map V.int)))
      ⟨new_same hB, upd_same⟩ (fun i H' _ ⟨e, _⟩ => e.seq hS) ?_ ?_
    · rintro i y H' hi ⟨sm, eB⟩
      obtain ⟨x, hx, rfl⟩ := int_at hi
      refine ⟨rfl, _, rfl, x, 4294967296, rfl, _, eB, ?_, grow_same hB sm, ?_⟩
      · rw [List.length_map, List.length_map, List.length_take]
        exact Nat.lt_of_le_of_lt (Nat.min_le_right _ _) (Nat.lt_of_le_of_lt hlen (by decide))
      · rw [upd_same, take_snoc hx, List.map_append, List.map_append]
        rfl
    · rintro H' ⟨sm, eB⟩
      rw [List.length_map, List.take_length] at eB
      exact q H' B sm hB eB
/-! ### words_in_range -/
def sp_words_in_range (K : PySem.W.Frag) : Sp := fun vs H Q _ => ∃ (a : Addr) (ns : List Int) (most : Int), vs = [.ref a, .int most] ∧ SqL K H a (ns.map V.int) ∧ Q (.bl (decide ((ns.length : Int) ≤ most) && allB ns 4294967296)) H
theorem sc_words_in_range : FnScope ["words", "most"] ["words", "most"] (defScope s_words_in_range) := ⟨rfl, rfl, rfl, by decide +kernel, rfl, by decide +kernel, by decide +kernel⟩
theorem ok_words_in_range {f : Addr} {fd : FuncData} {k : Nat} (T : Txt K mg) (D : Def K mg "words_in_range" s_words_in_range ["words", "most"] f fd) : FnOk P w K mg base CX0 (k + 2) f fd ["words", "most"] (sp_words_in_range K) := by
  obtain ⟨fA, fdA, DA⟩ := T.d_all_below
  have GA : FnOk P w K mg base CX0 (k + 1) fA fdA ["numbers", "span"] (sp_all_below K) := ok_all_below DA
  refine D.F.ok sc_words_in_range (fun vs H Q E h => ?_) (fun cdv A outer s H vs Q E hr h => ?_)
  · obtain ⟨a, ns, most, rfl, _⟩ := h
    rfl
  · obtain ⟨a, ns, most, rfl, hS, q⟩ := h
    refine ⟨_, pss_one (ps_ret (pe_and (pe_cmpR op_le (pe_callB call_len_seq (by rfl) T.m_len PySem.boot_len (pa_cons (pv 0) pa_nil)) (pv 1) (nomark _))
      (pe_one (pe_call GA hr rfl DA.g DA.F.kp DA.b .nil pass0 (pa_cons (pv 0) (pa_cons (pe_gi rfl T.g_WORD_SPAN) pa_nil)))))), ?_⟩
    refine ⟨_, rfl, a, _, rfl, .inl hS, _, rfl, _, _, rfl, rfl, _, rfl, ?_⟩
    rw [List.length_map]
    by_cases c : (ns.length : Int) ≤ most
    · refine ift (decide_eq_true c) ?_
      rw [decide_eq_true c, Bool.true_and] at q
      exact ⟨_, rfl, a, ns, _, rfl, hS, q⟩
    · refine iff_ (decide_eq_false c) ?_
      rw [decide_eq_false c, Bool.false_and] at q
      exact q
/-! ### all_small -/
def sp_all_small (K : PySem.W.Frag) : Sp := fun vs H Q _ => ∃ (a : Addr) (ns : List Int), vs = [.ref a] ∧ SqL K H a (ns.map V.int) ∧ Q (.bl (smallB ns)) H
theorem sc_all_small : FnScope ["numbers", "number"] ["numbers"] (defScope s_all_small) := ⟨rfl, rfl, rfl, by decide +kernel, rfl, by decide +kernel, by decide +kernel⟩
theorem ok_all_small {f : Addr} {fd : FuncData} {k : Nat} (T : Txt K mg) (D : Def K mg "all_small" s_all_small ["numbers"] f fd) : FnOk P w K mg base CX0 (k + 1) f fd ["numbers"] (sp_all_small K) := by
  refine D.F.ok sc_all_small (fun vs H Q E h => ?_) (fun cdv A outer s H vs Q E hr h => ?_)
  · obtain ⟨a, ns, rfl, _⟩ := h
    rfl
  · obtain ⟨a, ns, rfl, hS, q⟩ := h
    refine ⟨_, pss_cons (ps_for PassesOwn.never rfl (pi_list (pv 0)) (pg_name (i := 1) sc_all_small.nd rfl (.inl rfl))
        (pss_one (ps_if (pt_cmpR op_gt (pe_callB call_abs (by rfl) T.m_abs PyProof.Rows.boot_abs (pa_cons (pv 1) pa_nil)) (pe_gi rfl T.g_GREATEST_SIZE) (nomark _)) (pss_one (ps_ret pe_bl)) pss_nil)))
      (pss_one (ps_ret pe_bl)), ?_⟩
    refine ⟨_, rfl, a, rfl, ⟨_, hS⟩, for_list (K := K) (a := a) (xs := ns.map V.int) (fun i σ H' => (∃ v, σ = [some (.ref a), v]) ∧ H' = H ∧ smallB (ns.take i) = true)
      ⟨⟨none, rfl⟩, rfl, rfl⟩ (fun i σ H' _ ⟨_, e, _⟩ => e ▸ hS) ?_ ?_⟩
    · rintro i y σ H' hi ⟨⟨v, rfl⟩, rfl, hb⟩
      obtain ⟨z, hz, rfl⟩ := int_at hi
      refine ⟨_, rfl, z, rfl, _, 16777216, rfl, rfl, _, rfl, ?_⟩
      by_cases c : (16777216 : Int) < (if z < 0 then -z else z)
      · refine ift (decide_eq_true c) ?_
        have e : smallB ns = false := by
          unfold smallB
          rw [List.all_eq_false]
          exact ⟨z, List.mem_of_getElem? hz, by rw [decide_eq_true c]; decide⟩
        rw [e] at q
        exact q
      · refine iff_ (decide_eq_false c) ?_
        refine ⟨⟨_, rfl⟩, rfl, ?_⟩
        unfold smallB at hb ⊢
        rw [take_snoc hz, List.all_append, hb, List.all_cons, decide_eq_false c]
        rfl
    · rintro σ H' ⟨⟨v, rfl⟩, rfl, hb⟩
      rw [List.length_map, List.take_length] at hb
      rw [hb] at q
      exact q
/-! ### in_threes -/
def tupV (u : Tri) : HO := .tup [.int u.1, .int u.2.1, .int u.2.2]
/-- tuples of three at these addresses -/
def TupsAt (H : Hp) (rs : List Addr) (ws : List Tri) : Prop := rs.length = ws.length ∧ ∀ (i : Nat) (r : Addr), rs[i]? = some r → H r = some (tupV (ws.getD i (0, 0, 0)))
theorem TupsAt.same {H H' : Hp} {rs : List Addr} {ws : List Tri} (h : TupsAt H rs ws) (s : Same H H') : TupsAt H' rs ws := ⟨h.1, fun i r e => s _ _ (h.2 i r e)⟩
def sp_in_threes (K : PySem.W.Frag) : Sp := fun vs H Q _ => ∃ (a : Addr) (ns : List Int), vs = [.ref a] ∧ SqL K H a (ns.map V.int) ∧ ns.length = 3 * (ns.length / 3) ∧ ns.length ≤ 10000 ∧
  ∀ (H' : Hp) (p : Addr) (rs : List Addr), Same H H' → H p = none → H' p = some (.lst (rs.map V.ref)) → TupsAt H' rs (thr ns) → Q (.ref p) H'
theorem sc_in_threes : FnScope ["numbers", "i"] ["numbers"] (defScope s_in_threes) := ⟨rfl, rfl, rfl, by decide +kernel, rfl, by decide +kernel, by decide +kernel⟩
theorem fits {i : Int} (h0 : -100000 ≤ i) (h1 : i ≤ 100000) : Builtin.Range.rangeFitsLong i = true := by
  unfold Builtin.Range.rangeFitsLong
  rw [Bool.and_eq_true, decide_eq_true_eq, decide_eq_true_eq]
  omega
theorem rg3 {n : Nat} (h3 : n = 3 * (n / 3)) (hn : n ≤ 10000) : RgC 0 (n : Int) 3 (n / 3) := by
  have e : Builtin.Range.rangeSize 0 (n : Int) 3 = ((n / 3 : Nat) : Int) := by
    unfold Builtin.Range.rangeSize
    split <;> split <;> omega
  refine ⟨by decide, by decide, ?_, e⟩
  unfold Builtin.Range.small
  rw [e, fits (by omega) (by omega), fits (by omega) (by omega), fits (by omega) (by omega), fits (by omega) (by omega), if_pos (by decide), fits (by omega) (by omega), Bool.or_true]
  rfl
theorem thr_getD (ns : List Int) {i : Nat} (h : i < ns.length / 3) : (thr ns).getD i (0, 0, 0) = triAt ns i := by
  unfold thr
  rw [List.getD_eq_getElem?_getD, List.getElem?_map, List.getElem?_range h]
  rfl
theorem at_int (ns : List Int) {j : Nat} (h : j < ns.length) : atI (ns.map V.int) (j : Int) = some (.int (ns.getD j 0)) := by
  refine atI_nat ?_
  rw [List.getElem?_map, List.getElem?_eq_getElem h, List.getD_eq_getElem?_getD, List.getElem?_eq_getElem h]
  rfl
theorem ok_in_threes {f : Addr} {fd : FuncData} {k : Nat} (T : Txt K mg) (D : Def K mg "in_threes" s_in_threes ["numbers"] f fd) : FnOk P w K mg base CX0 (k + 1) f fd ["numbers"] (sp_in_threes K) := by
  refine D.F.ok sc_in_threes (fun vs H Q E h => ?_) (fun cdv A outer s H vs Q E hr h => ?_)
  · obtain ⟨a, ns, rfl, _⟩ := h
    rfl
  · obtain ⟨a, ns, rfl, hS, h3, hlen, q⟩ := h
    refine ⟨_, pss_one (ps_ret (pe_lc (own := [("i", 1)]) (g := gName 1) (tt := tYes) rfl sc_in_threes.nd (pi_range3 rfl T.m_range (pa_cons pe_int (pa_cons (pe_callB call_len_seq (by rfl) T.m_len PySem.boot_len (pa_cons (pv 0) pa_nil)) (pa_cons pe_int pa_nil))))
          (blkOk_by (N := ["numbers", "i"]) (sc := defScope s_in_threes) (by decide +kernel))
          (fun _ _ _ _ _ => pg_name (i := 1) sc_in_threes.nd rfl (Or.inl rfl)) (fun _ _ _ _ _ => pts_nil)
          (fun _ _ _ _ _ => pe_tup (pa_cons (pe_ix (r := rIxL K) (by exact ix_list) (pv 0) (pv 1) (fun _ _ => rfl)) (pa_cons (pe_ix (r := rIxL K) (by exact ix_list) (pv 0) (pe_op op_add (pv 1) pe_int) (fun _ _ => rfl)) (pa_cons (pe_ix (r := rIxL K) (by exact ix_list) (pv 0) (pe_op op_add (pv 1) pe_int) (fun _ _ => rfl)) pa_nil)))))), ?_⟩
    refine ⟨_, rfl, a, _, rfl, .inl hS, 0, _, 3, ns.length / 3, rfl, (by rw [List.length_map]; exact rg3 h3 hlen), fun B hB => ?_⟩
    refine lc_it walk_rangeC (fun i H' => Same H H' ∧ ∃ rs : List Addr, rs.length = i ∧ H' B = some (.lst (rs.map V.ref)) ∧ ∀ (j : Nat) (r : Addr), rs[j]? = some r → H' r = some (tupV (triAt ns j)))
      ⟨new_same hB, [], rfl, upd_same, fun j r e => by simp at e⟩ (fun _ _ _ _ => trivial) ?_ ?_
    · rintro i y H1 H' hi ⟨sm, rs, hl, eB, hT⟩ ⟨rfl, rfl⟩
      have eI : (0 + ((i : Nat) : Int) * 3) = ((3 * i : Nat) : Int) := by omega
      have eI1 : ((3 * i : Nat) : Int) + 1 = ((3 * i + 1 : Nat) : Int) := by omega
      have eI2 : ((3 * i : Nat) : Int) + 2 = ((3 * i + 2 : Nat) : Int) := by omega
      have eV : (fun i : Nat => V.int (0 + ((i : Nat) : Int) * 3)) i = V.int ((3 * i : Nat) : Int) := congrArg V.int eI
      rw [eV]
      have hS' := sm.seq hS
      refine ⟨rfl, _, rfl, _, rfl, a, _, _, _, rfl, rfl, hS', at_int ns (by omega), ?_⟩
      refine ⟨_, rfl, _, rfl, _, _, rfl, rfl, a, _, _, _, rfl, rfl, hS', (by rw [eI1]; exact at_int ns (by omega)), ?_⟩
      refine ⟨_, rfl, _, rfl, _, _, rfl, rfl, a, _, _, _, rfl, rfl, hS', (by rw [eI2]; exact at_int ns (by omega)), ?_⟩
      refine ⟨(by show 3 ≤ sizeLine; decide), fun t ht => ?_⟩
      have tB : B ≠ t := ne_of_none eB ht
      refine ⟨_, (upd_ne tB).trans eB, ?_, ?_, rs ++ [t], ?_, ?_, ?_⟩
      · rw [List.length_map, hl]
        exact Nat.lt_of_lt_of_le (show i < 10000 by omega) (by decide)
      · exact grow_same hB (sm.trans (new_same ht))
      · rw [List.length_append, hl]
        rfl
      · rw [upd_same, List.map_append]
        rfl
      · intro j r e
        by_cases hj : j < i
        · rw [List.getElem?_append_left (by omega)] at e
          have h1 := hT j r e
          have rB : r ≠ B := fun z => by
            rw [z, eB] at h1
            cases h1
          rw [upd_ne rB, upd_ne (ne_of_none h1 ht)]
          exact h1
        · rw [List.getElem?_append_right (by omega)] at e
          have hj' : j = i := by
            by_cases z : j - rs.length = 0
            · omega
            · rw [List.getElem?_eq_none (by simp; omega)] at e
              cases e
          subst hj'
          rw [hl, Nat.sub_self] at e
          have er : t = r := Option.some.inj e
          subst er
          rw [upd_ne tB.symm, upd_same]
          rfl
    · rintro H' ⟨sm, rs, hl, eB, hT⟩
      refine q H' B rs sm hB eB ⟨by rw [hl, thr_len], fun i r e => ?_⟩
      have hi : i < rs.length := (List.getElem?_eq_some_iff.mp e).1
      rw [thr_getD ns (by omega)]
      exact hT i r e
/-! ### along -/
def Bnd (u : Tri) : Prop := u.1.natAbs ≤ 16777216 ∧ u.2.1.natAbs ≤ 16777216 ∧ u.2.2.natAbs ≤ 16777216
def sp_along : Sp := fun vs H Q _ => ∃ (a b : Addr) (u v : Tri), vs = [.ref a, .ref b] ∧ H a = some (tupV u) ∧ H b = some (tupV v) ∧ Bnd u ∧ Q (.int (dotP u v)) H
theorem sc_along : FnScope ["way", "other"] ["way", "other"] (defScope s_along) := ⟨rfl, rfl, rfl, by decide +kernel, rfl, by decide +kernel, by decide +kernel⟩
theorem ok_along {f : Addr} {fd : FuncData} {k : Nat} (D : Def K mg "along" s_along ["way", "other"] f fd) : FnOk P w K mg base CX0 (k + 1) f fd ["way", "other"] sp_along := by
  refine D.F.ok sc_along (fun vs H Q E h => ?_) (fun cdv A outer s H vs Q E hr h => ?_)
  · obtain ⟨a, b, u, v, rfl, _⟩ := h
    rfl
  · obtain ⟨a, b, u, v, rfl, ha, hb, ⟨b1, b2, b3⟩, q⟩ := h
    refine ⟨_, pss_one (ps_ret (pe_op op_add (pe_op op_add (pe_op op_mul (pe_ix ix_tup (pv 0) pe_int (fun _ _ => rfl)) (pe_ix ix_tup (pv 1) pe_int (fun _ _ => rfl)))
      (pe_op op_mul (pe_ix ix_tup (pv 0) pe_int (fun _ _ => rfl)) (pe_ix ix_tup (pv 1) pe_int (fun _ _ => rfl))))
      (pe_op op_mul (pe_ix ix_tup (pv 0) pe_int (fun _ _ => rfl)) (pe_ix ix_tup (pv 1) pe_int (fun _ _ => rfl))))), ?_⟩
    have hA : SqT K H a [.int u.1, .int u.2.1, .int u.2.2] := SqT.of ha
    have hB : SqT K H b [.int v.1, .int v.2.1, .int v.2.2] := SqT.of hb
    refine ⟨_, rfl, a, _, 0, _, rfl, rfl, hA, rfl, _, rfl, b, _, 0, _, rfl, rfl, hB, rfl, _, _, rfl, rfl, .inl ⟨by omega, by omega⟩, ?_⟩
    refine ⟨_, rfl, a, _, 1, _, rfl, rfl, hA, rfl, _, rfl, b, _, 1, _, rfl, rfl, hB, rfl, _, _, rfl, rfl, .inl ⟨by omega, by omega⟩, _, _, rfl, rfl, ?_⟩
    refine ⟨_, rfl, a, _, 2, _, rfl, rfl, hA, rfl, _, rfl, b, _, 2, _, rfl, rfl, hB, rfl, _, _, rfl, rfl, .inl ⟨by omega, by omega⟩, _, _, rfl, rfl, ?_⟩
    exact q
/-! ### up_mask -/
def sp_up_mask (K : PySem.W.Frag) : Sp := fun vs H Q _ => ∃ (t : Int) (p b : Addr) (rs : List Addr) (zs : List Tri) (u : Tri), vs = [.int t, .ref p, .ref b] ∧ SqL K H p (rs.map V.ref) ∧ TupsAt H rs zs ∧ zs.length ≤ 1000 ∧ H b = some (tupV u) ∧ Bnd u ∧
  ∀ H' : Hp, Same H H' → Q (.int ((upN t zs u zs.length : Nat) : Int)) H'
theorem sc_up_mask : FnScope ["least", "zeniths", "way", "mask", "slot", "zenith"] ["least", "zeniths", "way"] (defScope s_up_mask) := ⟨rfl, rfl, rfl, by decide +kernel, rfl, by decide +kernel, by decide +kernel⟩
theorem or_bit (m i : Nat) : Builtin.bitOr (m : Int) (1 * 2 ^ ((i : Int)).toNat) = ((m ||| 2 ^ i : Nat) : Int) := by
  have e : (1 : Int) * 2 ^ ((i : Int)).toNat = ((2 ^ i : Nat) : Int) := by
    rw [Int.toNat_natCast, Int.one_mul]
    norm_cast
  rw [e, Bits.bitOr_pp (Int.natCast_nonneg _) (Int.natCast_nonneg _)]
  rfl
theorem ok_up_mask {f : Addr} {fd : FuncData} {k : Nat} (T : Txt K mg) (D : Def K mg "up_mask" s_up_mask ["least", "zeniths", "way"] f fd) : FnOk P w K mg base CX0 (k + 2) f fd ["least", "zeniths", "way"] (sp_up_mask K) := by
  obtain ⟨fA, fdA, DA⟩ := T.d_along
  have GA : FnOk P w K mg base CX0 (k + 1) fA fdA ["way", "other"] sp_along := ok_along DA
  refine D.F.ok sc_up_mask (fun vs H Q E h => ?_) (fun cdv A outer s H vs Q E hr h => ?_)
  · obtain ⟨t, p, b, rs, zs, u, rfl, _⟩ := h
    rfl
  · obtain ⟨t, p, b, rs, zs, u, rfl, hS, hT, hz, hb, hu, q⟩ := h
    refine ⟨_, pss_cons (ps_set (i := 3) sc_up_mask.nd rfl (.inl rfl) pe_int)
      (pss_cons (ps_for PassesOwn.never rfl (pi_enum (by rfl) T.m_enumerate (pa_cons (pv 1) pa_nil)) (pg_tup rfl (pgs_cons (pg_name (i := 4) sc_up_mask.nd rfl (.inl rfl)) (pgs_cons (pg_name (i := 5) sc_up_mask.nd rfl (.inl rfl)) pgs_nil)))
        (pss_one (ps_if (pt_cmpR op_ge (pe_call GA hr rfl DA.g DA.F.kp DA.b .nil pass0 (pa_cons (pv 2) (pa_cons (pv 5) pa_nil))) (pv 0) (nomark _))
          (pss_one (ps_set (i := 3) sc_up_mask.nd rfl (.inl rfl) (pe_op op_or (pv 3) (pe_op op_shl pe_int (pv 4))))) pss_nil)))
      (pss_one (ps_ret (pv 3)))), ?_⟩
    refine ⟨_, rfl, p, _, rfl, hS, ?_⟩
    refine for_it walk_enum (fun i σ H' => (∃ v4 v5, σ = [some (.int t), some (.ref p), some (.ref b), some (.int ((upN t zs u i : Nat) : Int)), v4, v5]) ∧ Same H H')
      ⟨⟨none, none, rfl⟩, fun _ _ e => e⟩ (fun i σ H' _ ⟨_, e⟩ => e.seq hS) ?_ ?_
    · rintro i y σ H1 H' hi ⟨⟨v4, v5, rfl⟩, sm⟩ ⟨X, x1, x2, rfl, nX, rfl, e1, e2⟩
      rw [List.length_map] at hi
      have ex1 : V.int ((i : Nat) : Int) = x1 := Option.some.inj e1
      subst ex1
      have e3 : (rs.map V.ref)[i]? = some x2 := e2
      rw [List.getElem?_map, List.getElem?_eq_getElem hi] at e3
      have ex2 : V.ref rs[i] = x2 := Option.some.inj e3
      subst ex2
      have s2 : Same H (upd H1 X (.tup [.int ((i : Nat) : Int), .ref rs[i]])) := sm.trans (new_same nX)
      have hr' := s2 _ _ (hT.2 i rs[i] (List.getElem?_eq_getElem hi))
      refine ⟨X, [.int ((i : Nat) : Int), .ref rs[i]], rfl, .inl (.inl upd_same), rfl, _, _, rfl, _, _, rfl, rfl, ?_⟩
      refine ⟨_, rfl, _, rfl, b, rs[i], u, _, rfl, s2 _ _ hb, hr', hu, _, rfl, _, t, rfl, rfl, _, rfl, ?_⟩
      by_cases c : t ≤ dotP u (zs.getD i (0, 0, 0))
      · refine ift (decide_eq_true c) ?_
        have hzl := hT.1
        refine ⟨_, rfl, _, rfl, 1, _, rfl, rfl, ⟨by omega, by omega, by decide⟩, _, _, rfl, rfl, ?_⟩
        refine ⟨⟨some (.int ((i : Nat) : Int)), some (.ref rs[i]), ?_⟩, s2⟩
        rw [upN, if_pos c, ← or_bit]
        rfl
      · refine iff_ (decide_eq_false c) ?_
        refine ⟨⟨some (.int ((i : Nat) : Int)), some (.ref rs[i]), ?_⟩, s2⟩
        rw [upN, if_neg c]
        rfl
    · rintro σ H' ⟨⟨v4, v5, rfl⟩, sm⟩
      rw [List.length_map, hT.1]
      exact ⟨_, rfl, q H' sm⟩
/-! ### np_up -/
def sp_np_up (K : PySem.W.Frag) : Sp := fun vs H Q _ => ∃ (t : Int) (a b : Addr) (zs ls : List Int), vs = [.int t, .ref a, .ref b] ∧ SqL K H a (zs.map V.int) ∧ SqL K H b (ls.map V.int) ∧ 0 ≤ t ∧ t ≤ 18446744073709551615 ∧ zs.length ≤ 198 ∧ ls.length ≤ 3078 ∧
  (∀ x ∈ zs, 0 ≤ x ∧ x ≤ 4294967295) ∧ (∀ x ∈ ls, 0 ≤ x ∧ x ≤ 4294967295) ∧ zs.length = 3 * (zs.length / 3) ∧ ls.length = 3 * (ls.length / 3) ∧
  ∀ (H' : Hp) (p : Addr), H' p = some (.lst ((PySh73.np_up t zs ls).map V.int)) → Q (.ref p) H'
theorem sc_np_up : FnScope ["t", "z", "l", "zenith_numbers", "way_numbers", "least", "zeniths", "way"] ["t", "z", "l"] (defScope s_np_up) := ⟨rfl, rfl, rfl, by decide +kernel, rfl, by decide +kernel, by decide +kernel⟩
theorem bnd_thr {ns : List Int} (h : smallB ns = true) (h3 : ns.length = 3 * (ns.length / 3)) {u : Tri} (hu : u ∈ thr ns) : Bnd u := by
  rw [← small_thr h3, List.all_eq_true] at h
  exact (fine_iff u).mp (h _ (List.mem_map_of_mem hu))
def upV (t : Int) (zs : List Int) (u : Tri) : Int := ((upN (sgn t 18446744073709551616) (thr (zs.map (sgn · 4294967296))) u (zs.length / 3) : Nat) : Int)
theorem ref_at {rs : List Addr} {i : Nat} {y : V} (hi : (rs.map V.ref)[i]? = some y) : ∃ r, rs[i]? = some r ∧ y = V.ref r := by
  rw [List.getElem?_map, Option.map_eq_some_iff] at hi
  obtain ⟨r, h1, h2⟩ := hi
  exact ⟨r, h1, h2.symm⟩
theorem ok_np_up {f : Addr} {fd : FuncData} (T : Txt K mg) (D : Def K mg "np_up" s_np_up ["t", "z", "l"] f fd) : FnOk P w K mg base CX0 3 f fd ["t", "z", "l"] (sp_np_up K) := by
  obtain ⟨f1, fd1, D1⟩ := T.d_all_below
  obtain ⟨f2, fd2, D2⟩ := T.d_words_in_range
  obtain ⟨f3, fd3, D3⟩ := T.d_signed_words
  obtain ⟨f4, fd4, D4⟩ := T.d_all_small
  obtain ⟨f5, fd5, D5⟩ := T.d_signed
  obtain ⟨f6, fd6, D6⟩ := T.d_in_threes
  obtain ⟨f7, fd7, D7⟩ := T.d_up_mask
  have G1 : FnOk P w K mg base CX0 2 f1 fd1 ["numbers", "span"] (sp_all_below K) := ok_all_below D1
  have G2 : FnOk P w K mg base CX0 2 f2 fd2 ["words", "most"] (sp_words_in_range K) := ok_words_in_range T D2
  have G3 : FnOk P w K mg base CX0 2 f3 fd3 ["words"] (sp_signed_words K) := ok_signed_words T D3
  have G4 : FnOk P w K mg base CX0 2 f4 fd4 ["numbers"] (sp_all_small K) := ok_all_small T D4
  have G5 : FnOk P w K mg base CX0 2 f5 fd5 ["number", "span"] sp_signed := ok_signed D5
  have G6 : FnOk P w K mg base CX0 2 f6 fd6 ["numbers"] (sp_in_threes K) := ok_in_threes T D6
  have G7 : FnOk P w K mg base CX0 2 f7 fd7 ["least", "zeniths", "way"] (sp_up_mask K) := ok_up_mask T D7
  refine D.F.ok sc_np_up (fun vs H Q E h => ?_) (fun cdv A outer s H vs Q E hr h => ?_)
  · obtain ⟨t, a, b, zs, ls, rfl, _⟩ := h
    rfl
  · obtain ⟨t, a, b, zs, ls, rfl, hZ, hL, t0, t1, zlen, llen, zb, lb, z3, l3, q⟩ := h
    have nd := sc_np_up.nd
    refine ⟨_, pss_cons (ps_if (pt_not (pt_val (pe_call G1 hr rfl D1.g D1.F.kp D1.b .nil pass0 (pa_cons (pe_lst (pa_cons (pv 0) pa_nil)) (pa_cons (pe_gi rfl T.g_LONG_SPAN) pa_nil))))) (pss_one (ps_ret (pe_lst (pa_cons (pe_gi rfl T.g_OUT_OF_RANGE) pa_nil)))) pss_nil)
      (pss_cons (ps_if (PW.pt (pw_or (pt_not (pt_val (pe_call G2 hr rfl D2.g D2.F.kp D2.b .nil pass0 (pa_cons (pv 1) (pa_cons (pe_op op_mul pe_int (pe_gi rfl T.g_MOST_ZENITHS)) pa_nil)))))
          (pw_or1 (pt_not (pt_val (pe_call G2 hr rfl D2.g D2.F.kp D2.b .nil pass0 (pa_cons (pv 2) (pa_cons (pe_op op_mul pe_int (pe_gi rfl T.g_MOST_WAYS)) pa_nil)))))))) (pss_one (ps_ret (pe_lst (pa_cons (pe_gi rfl T.g_OUT_OF_RANGE) pa_nil)))) pss_nil)
      (pss_cons (ps_set (i := 3) nd rfl (.inl rfl) (pe_call G3 hr rfl D3.g D3.F.kp D3.b .nil pass0 (pa_cons (pv 1) pa_nil)))
      (pss_cons (ps_set (i := 4) nd rfl (.inl rfl) (pe_call G3 hr rfl D3.g D3.F.kp D3.b .nil pass0 (pa_cons (pv 2) pa_nil)))
      (pss_cons (ps_if (PW.pt (pw_or (pt_not (pt_val (pe_call G4 hr rfl D4.g D4.F.kp D4.b .nil pass0 (pa_cons (pv 3) pa_nil))))
          (pw_or1 (pt_not (pt_val (pe_call G4 hr rfl D4.g D4.F.kp D4.b .nil pass0 (pa_cons (pv 4) pa_nil))))))) (pss_one (ps_ret (pe_lst (pa_cons (pe_gi rfl T.g_WAY_TOO_LONG) pa_nil)))) pss_nil)
      (pss_cons (ps_set (i := 5) nd rfl (.inr rfl) (pe_call G5 hr rfl D5.g D5.F.kp D5.b .nil pass0 (pa_cons (pv 0) (pa_cons (pe_gi rfl T.g_LONG_SPAN) pa_nil))))
      (pss_cons (ps_set (i := 6) nd rfl (.inr rfl) (pe_call G6 hr rfl D6.g D6.F.kp D6.b .nil pass0 (pa_cons (pv 3) pa_nil)))
      (pss_one (ps_ret (pe_op op_cat (pe_lst (pa_cons pe_int pa_nil))
        (pe_lc (own := [("way", 7)]) (g := gName 7) (tt := tYes) rfl nd (pi_list (pe_call G6 hr rfl D6.g D6.F.kp D6.b .nil pass0 (pa_cons (pv 4) pa_nil)))
          (blkOk_by (N := ["t", "z", "l", "zenith_numbers", "way_numbers", "least", "zeniths", "way"]) (sc := defScope s_np_up) (by decide +kernel))
          (fun _ _ _ _ _ => pg_name (i := 7) nd rfl (Or.inl rfl)) (fun _ _ _ _ _ => pts_nil)
          (fun _ _ _ _ _ => pe_call G7 hr rfl D7.g D7.F.kp D7.b .nil pass0 (pa_cons (pv 5) (pa_cons (pv 6) (pa_cons (pv 7) pa_nil))))))))))))))
      , ?_⟩
    have fin : ∀ H1, ∀ p, H1 p = some (.lst ((upP t zs ls).map V.int)) → Q (.ref p) H1 := fun H1 p e => q H1 p (by rw [← up_ok t zs ls t0 (fun x hx => (zb x hx).1) (fun x hx => (lb x hx).1) z3 l3]; exact e)
    -- if not all_below([t], LONG_SPAN)
    refine ⟨_, rfl, (by show 1 ≤ sizeLine; decide), fun c0 hc0 => ?_⟩
    refine ⟨c0, [t], 18446744073709551616, rfl, SqL.of upd_same, _, rfl, ?_⟩
    have hall : allB [t] 18446744073709551616 = true := allB_true fun x hx => by
      have e : x = t := by simpa using hx
      omega
    rw [hall]
    refine iff_ rfl ?_
    have s0 : Same H (upd H c0 (.lst [.int t])) := new_same hc0
    have hZ0 := s0.seq hZ
    have hL0 := s0.seq hL
    have az : allB zs 4294967296 = true := allB_true fun x hx => by have := zb x hx; omega
    have al : allB ls 4294967296 = true := allB_true fun x hx => by have := lb x hx; omega
    -- if not ways_in_range(z, ..) or not ways_in_range(l, ..)
    refine ⟨_, rfl, 3, 64, rfl, rfl, .inl ⟨by decide, by decide⟩, a, zs, 3 * 64, rfl, hZ0, _, rfl, ?_⟩
    rw [az, Bool.and_true]
    by_cases c1 : (zs.length : Int) ≤ 3 * 64
    · rw [decide_eq_true c1]
      refine iff_ rfl ?_
      refine ⟨_, rfl, 3, 1024, rfl, rfl, .inl ⟨by decide, by decide⟩, b, ls, 3 * 1024, rfl, hL0, _, rfl, ?_⟩
      rw [al, Bool.and_true]
      by_cases c2 : (ls.length : Int) ≤ 3 * 1024
      · rw [decide_eq_true c2]
        refine iff_ rfl ?_
        -- zenith_numbers, way_numbers
        refine ⟨_, rfl, a, zs, rfl, hZ0, by omega, fun H1 p1 s1 n1 e1 => ?_⟩
        have s01 := s0.trans s1
        refine ⟨_, rfl, b, ls, rfl, s01.seq hL, by omega, fun H2 p2 s2 n2 e2 => ?_⟩
        have e1' := s2 _ _ e1
        have mz : (zs.map (sgn · 4294967296)).length = zs.length := List.length_map ..
        have ml : (ls.map (sgn · 4294967296)).length = ls.length := List.length_map ..
        have notBig : ¬ ¬ ((zs.length : Int) ≤ 192 ∧ (ls.length : Int) ≤ 3072) := by omega
        -- if not all_small(..) or not all_small(..)
        refine ⟨_, rfl, p1, _, rfl, SqL.of e1', _, rfl, ?_⟩
        cases d1 : smallB (zs.map (sgn · 4294967296)) with
        | false =>
          refine ift rfl ?_
          refine ⟨(by show 1 ≤ sizeLine; decide), fun p hp => fin _ p ?_⟩
          rw [upd_same, upP, if_neg notBig, if_pos (.inl d1)]
          rfl
        | true =>
          refine iff_ rfl ?_
          refine ⟨_, rfl, p2, _, rfl, SqL.of e2, _, rfl, ?_⟩
          cases d2 : smallB (ls.map (sgn · 4294967296)) with
          | false =>
            refine ift rfl ?_
            refine ⟨(by show 1 ≤ sizeLine; decide), fun p hp => fin _ p ?_⟩
            rw [upd_same, upP, if_neg notBig, if_pos (.inr d2)]
            rfl
          | true =>
            refine iff_ rfl ?_
            -- least, zeniths
            refine ⟨_, rfl, t, 18446744073709551616, rfl, ?_⟩
            refine ⟨_, rfl, p1, _, rfl, SqL.of e1', (by rw [mz]; exact z3), (by rw [mz]; omega), fun H3 p3 rz s3 n3 e3 hTz => ?_⟩
            -- [0], in_threes(way_numbers)
            refine ⟨(by show 1 ≤ sizeLine; decide), fun c4 hc4 => ?_⟩
            have s4 : Same H3 (upd H3 c4 (.lst [.int 0])) := new_same hc4
            have e2' := s4 _ _ (s3 _ _ e2)
            refine ⟨_, rfl, p2, _, rfl, SqL.of e2', (by rw [ml]; exact l3), (by rw [ml]; omega), fun H5 p5 rl s5 n5 e5 hTl => ?_⟩
            have e3' := s5 _ _ (s4 _ _ e3)
            have hTz' := (hTz.same s4).same s5
            have e4' := s5 _ _ (upd_same (H := H3) (a := c4) (o := .lst [.int 0]))
            refine ⟨p5, rfl, ⟨_, SqL.of e5⟩, fun B hB => ?_⟩
            refine lc_list (K := K) (a := p5) (xs := rl.map V.ref) (fun i H' => Same H5 H' ∧ H' B = some (.lst ((((thr (ls.map (sgn · 4294967296))).take i).map (upV t zs)).map V.int)))
              ⟨new_same hB, upd_same⟩ (fun i H' _ ⟨e, _⟩ => e.seq (SqL.of e5)) ?_ ?_
            · rintro i y H' hi ⟨sm, eB⟩
              obtain ⟨r, hr1, rfl⟩ := ref_at hi
              have hil : i < rl.length := (List.getElem?_eq_some_iff.mp hr1).1
              have hi2 : i < (thr (ls.map (sgn · 4294967296))).length := by
                rw [← hTl.1]
                exact hil
              have eu : (thr (ls.map (sgn · 4294967296)))[i]? = some ((thr (ls.map (sgn · 4294967296))).getD i (0, 0, 0)) := by
                rw [List.getD_eq_getElem?_getD, List.getElem?_eq_getElem hi2]
                rfl
              have hlt := thr_len (zs.map (sgn · 4294967296))
              have hll := thr_len (ls.map (sgn · 4294967296))
              refine ⟨rfl, _, rfl, _, rfl, _, rfl, sgn t 18446744073709551616, p3, r, rz, thr (zs.map (sgn · 4294967296)), (thr (ls.map (sgn · 4294967296))).getD i (0, 0, 0), rfl, SqL.of (sm _ _ e3'), hTz'.same sm, by omega, sm _ _ (hTl.2 i r hr1),
                bnd_thr d2 (by rw [ml]; exact l3) (List.mem_of_getElem? eu), fun H'' sm2 => ?_⟩
              refine ⟨_, sm2 _ _ eB, ?_, grow_same hB (sm.trans sm2), ?_⟩
              · rw [List.length_map, List.length_map, List.length_take]
                exact Nat.lt_of_le_of_lt (Nat.min_le_right _ _) (Nat.lt_of_le_of_lt (show _ ≤ 10000 by omega) (by decide))
              · rw [upd_same, take_snoc eu, List.map_append, List.map_append, hlt, mz]
                rfl
            · rintro H' ⟨sm, eB⟩
              have hll := thr_len (ls.map (sgn · 4294967296))
              rw [List.length_map, hTl.1, List.take_length] at eB
              refine ⟨c4, B, _, _, rfl, rfl, sm _ _ e4', eB, ?_, fun p hp => ?_⟩
              · rw [List.length_map, List.length_map]
                exact Nat.le_trans (Nat.add_le_add_left (show _ ≤ 10000 by omega) _) (by decide)
              · refine fin _ p ?_
                rw [upd_same, upP, if_neg notBig, if_neg (by rw [d1, d2]; simp)]
                rfl
      · rw [decide_eq_false c2]
        refine ift rfl ?_
        refine ⟨(by show 1 ≤ sizeLine; decide), fun p hp => fin _ p ?_⟩
        rw [upd_same, upP, if_pos (by omega)]
        rfl
    · rw [decide_eq_false c1]
      refine ift rfl ?_
      refine ⟨(by show 1 ≤ sizeLine; decide), fun p hp => fin _ p ?_⟩
      rw [upd_same, upP, if_pos (by omega)]
      rfl
theorem asked_up {t : Int} {z l : List Int} (h : PySh73.np_up_asked t z l = true) : z.length = 3 * (z.length / 3) ∧ l.length = 3 * (l.length / 3) := by
  unfold PySh73.np_up_asked Sh73Neutral.asked at h
  rw [Bool.and_eq_true] at h
  have h1 := h.1
  simp only [Sh73Neutral.asked1, Bool.and_eq_true] at h1
  have h2 := h1.2.2.2
  have e1 : (Sh73Neutral.nats z).length = z.length := List.length_map ..
  have e2 : (Sh73Neutral.nats l).length = l.length := List.length_map ..
  rw [e1, e2] at h2
  split at h2
  · simp only [Bool.and_eq_true, beq_iff_eq] at h2
    exact h2
  · rw [Bool.or_eq_true] at h2
    rcases h2 with h2 | h2
    · simp only [Bool.and_eq_true, List.isEmpty_iff] at h2
      rw [h2.1, h2.2]
      exact ⟨rfl, rfl⟩
    · simp only [Bool.and_eq_true, beq_iff_eq] at h2
      exact h2
end
theorem all_mk {P : Program} {w : World} {K : PySem.W.Frag} {h : Heap} {mg : Str → Option Value} {fa f0 f1 f2 f3 f4 f5 f6 f7 f8 : Addr} (X : K.In h) (G : h.Ns mainGlobals mg) (hfa : mg "np_up" = some (.ref fa))
    {od0 an0 od1 an1 od2 an2 od3 an3 od4 an4 od5 an5 od6 an6 od7 an7 od8 an8 : Option Addr} {sl0 sl1 sl2 sl3 sl4 sl5 sl6 sl7 sl8 : Array (Option Value)} {oc0 kV0 dc0 pm0 cd0 ct0 oc1 kV1 dc1 pm1 cd1 ct1 oc2 kV2 dc2 pm2 cd2 ct2 oc3 kV3 dc3 pm3 cd3 ct3 oc4 kV4 dc4 pm4 cd4 ct4 oc5 kV5 dc5 pm5 cd5 ct5 oc6 kV6 dc6 pm6 cd6 ct6 oc7 kV7 dc7 pm7 cd7 ct7 oc8 kV8 dc8 pm8 cd8 ct8 : Value}
    {t_OUT_OF_RANGE t_WAY_TOO_LONG t_WORD_SPAN t_LONG_SPAN t_MOST_ZENITHS t_MOST_WAYS t_GREATEST_SIZE : Tok}
    (g_OUT_OF_RANGE : PySem.W.nsIn K mainGlobals "OUT_OF_RANGE" = some (some (.int (-2) t_OUT_OF_RANGE)))
    (g_WAY_TOO_LONG : PySem.W.nsIn K mainGlobals "WAY_TOO_LONG" = some (some (.int (-3) t_WAY_TOO_LONG)))
    (g_WORD_SPAN : PySem.W.nsIn K mainGlobals "WORD_SPAN" = some (some (.int 4294967296 t_WORD_SPAN)))
    (g_LONG_SPAN : PySem.W.nsIn K mainGlobals "LONG_SPAN" = some (some (.int 18446744073709551616 t_LONG_SPAN)))
    (g_MOST_ZENITHS : PySem.W.nsIn K mainGlobals "MOST_ZENITHS" = some (some (.int 64 t_MOST_ZENITHS)))
    (g_MOST_WAYS : PySem.W.nsIn K mainGlobals "MOST_WAYS" = some (some (.int 1024 t_MOST_WAYS)))
    (g_GREATEST_SIZE : PySem.W.nsIn K mainGlobals "GREATEST_SIZE" = some (some (.int 16777216 t_GREATEST_SIZE)))
    (m_abs : PySem.W.nsIn K mainGlobals "abs" = some none)
    (m_enumerate : PySem.W.nsIn K mainGlobals "enumerate" = some none)
    (m_len : PySem.W.nsIn K mainGlobals "len" = some none)
    (m_range : PySem.W.nsIn K mainGlobals "range" = some none)
    (a0 : PySem.W.nsIn K mainGlobals "all_below" = some (some (.ref f0))) (l0 : K.lookup f0 = some ⟨oc0, od0, .func (PySem.W.fnOf "all_below" "all_below" (defArgs s_all_below) (defBody s_all_below) (defScope s_all_below) .none kV0 dc0 pm0 an0 cd0 ct0), sl0⟩) (c0 : PySem.W.codeIn K cd0 "all_below" = true) (k0 : PySem.W.keepIn K (.ref f0) = true)
    (a1 : PySem.W.nsIn K mainGlobals "signed" = some (some (.ref f1))) (l1 : K.lookup f1 = some ⟨oc1, od1, .func (PySem.W.fnOf "signed" "signed" (defArgs s_signed) (defBody s_signed) (defScope s_signed) .none kV1 dc1 pm1 an1 cd1 ct1), sl1⟩) (c1 : PySem.W.codeIn K cd1 "signed" = true) (k1 : PySem.W.keepIn K (.ref f1) = true)
    (a2 : PySem.W.nsIn K mainGlobals "signed_words" = some (some (.ref f2))) (l2 : K.lookup f2 = some ⟨oc2, od2, .func (PySem.W.fnOf "signed_words" "signed_words" (defArgs s_signed_words) (defBody s_signed_words) (defScope s_signed_words) .none kV2 dc2 pm2 an2 cd2 ct2), sl2⟩) (c2 : PySem.W.codeIn K cd2 "signed_words" = true) (k2 : PySem.W.keepIn K (.ref f2) = true)
    (a3 : PySem.W.nsIn K mainGlobals "words_in_range" = some (some (.ref f3))) (l3 : K.lookup f3 = some ⟨oc3, od3, .func (PySem.W.fnOf "words_in_range" "words_in_range" (defArgs s_words_in_range) (defBody s_words_in_range) (defScope s_words_in_range) .none kV3 dc3 pm3 an3 cd3 ct3), sl3⟩) (c3 : PySem.W.codeIn K cd3 "words_in_range" = true) (k3 : PySem.W.keepIn K (.ref f3) = true)
    (a4 : PySem.W.nsIn K mainGlobals "all_small" = some (some (.ref f4))) (l4 : K.lookup f4 = some ⟨oc4, od4, .func (PySem.W.fnOf "all_small" "all_small" (defArgs s_all_small) (defBody s_all_small) (defScope s_all_small) .none kV4 dc4 pm4 an4 cd4 ct4), sl4⟩) (c4 : PySem.W.codeIn K cd4 "all_small" = true) (k4 : PySem.W.keepIn K (.ref f4) = true)
    (a5 : PySem.W.nsIn K mainGlobals "in_threes" = some (some (.ref f5))) (l5 : K.lookup f5 = some ⟨oc5, od5, .func (PySem.W.fnOf "in_threes" "in_threes" (defArgs s_in_threes) (defBody s_in_threes) (defScope s_in_threes) .none kV5 dc5 pm5 an5 cd5 ct5), sl5⟩) (c5 : PySem.W.codeIn K cd5 "in_threes" = true) (k5 : PySem.W.keepIn K (.ref f5) = true)
    (a6 : PySem.W.nsIn K mainGlobals "along" = some (some (.ref f6))) (l6 : K.lookup f6 = some ⟨oc6, od6, .func (PySem.W.fnOf "along" "along" (defArgs s_along) (defBody s_along) (defScope s_along) .none kV6 dc6 pm6 an6 cd6 ct6), sl6⟩) (c6 : PySem.W.codeIn K cd6 "along" = true) (k6 : PySem.W.keepIn K (.ref f6) = true)
    (a7 : PySem.W.nsIn K mainGlobals "up_mask" = some (some (.ref f7))) (l7 : K.lookup f7 = some ⟨oc7, od7, .func (PySem.W.fnOf "up_mask" "up_mask" (defArgs s_up_mask) (defBody s_up_mask) (defScope s_up_mask) .none kV7 dc7 pm7 an7 cd7 ct7), sl7⟩) (c7 : PySem.W.codeIn K cd7 "up_mask" = true) (k7 : PySem.W.keepIn K (.ref f7) = true)
    (a8 : PySem.W.nsIn K mainGlobals "np_up" = some (some (.ref f8))) (l8 : K.lookup f8 = some ⟨oc8, od8, .func (PySem.W.fnOf "np_up" "np_up" (defArgs s_np_up) (defBody s_np_up) (defScope s_np_up) .none kV8 dc8 pm8 an8 cd8 ct8), sl8⟩) (c8 : PySem.W.codeIn K cd8 "np_up" = true) (k8 : PySem.W.keepIn K (.ref f8) = true) :
    ∃ fd : FuncData, (∀ (s : Shared) (us : List Value), us.length = (["t", "z", "l"] : List Str).length → BindsTo s fd ⟨us, []⟩ ((["t", "z", "l"] : List Str).zip us)) ∧ ∀ base : Heap, K.In base → base.Ns mainGlobals mg → FnOk P w K mg base CX0 3 fa fd ["t", "z", "l"] (sp_np_up K) := by
  have e := hfa.symm.trans (PySem.W.mg_of X G a8)
  cases e
  have F0 := fun_mk (st := s_all_below) l0 c0 k0
  have b0 := F0.binds (ps := ["numbers", "span"]) fun _ _ _ _ _ _ us hl => match us, hl with | [_, _], _ => rfl
  have F1 := fun_mk (st := s_signed) l1 c1 k1
  have b1 := F1.binds (ps := ["number", "span"]) fun _ _ _ _ _ _ us hl => match us, hl with | [_, _], _ => rfl
  have F2 := fun_mk (st := s_signed_words) l2 c2 k2
  have b2 := F2.binds (ps := ["words"]) fun _ _ _ _ _ _ us hl => match us, hl with | [_], _ => rfl
  have F3 := fun_mk (st := s_words_in_range) l3 c3 k3
  have b3 := F3.binds (ps := ["words", "most"]) fun _ _ _ _ _ _ us hl => match us, hl with | [_, _], _ => rfl
  have F4 := fun_mk (st := s_all_small) l4 c4 k4
  have b4 := F4.binds (ps := ["numbers"]) fun _ _ _ _ _ _ us hl => match us, hl with | [_], _ => rfl
  have F5 := fun_mk (st := s_in_threes) l5 c5 k5
  have b5 := F5.binds (ps := ["numbers"]) fun _ _ _ _ _ _ us hl => match us, hl with | [_], _ => rfl
  have F6 := fun_mk (st := s_along) l6 c6 k6
  have b6 := F6.binds (ps := ["way", "other"]) fun _ _ _ _ _ _ us hl => match us, hl with | [_, _], _ => rfl
  have F7 := fun_mk (st := s_up_mask) l7 c7 k7
  have b7 := F7.binds (ps := ["least", "zeniths", "way"]) fun _ _ _ _ _ _ us hl => match us, hl with | [_, _, _], _ => rfl
  have F8 := fun_mk (st := s_np_up) l8 c8 k8
  have b8 := F8.binds (ps := ["t", "z", "l"]) fun _ _ _ _ _ _ us hl => match us, hl with | [_, _, _], _ => rfl
  have T : Txt K mg := ⟨⟨_, PySem.W.mg_of X G g_OUT_OF_RANGE⟩, ⟨_, PySem.W.mg_of X G g_WAY_TOO_LONG⟩, ⟨_, PySem.W.mg_of X G g_WORD_SPAN⟩, ⟨_, PySem.W.mg_of X G g_LONG_SPAN⟩, ⟨_, PySem.W.mg_of X G g_MOST_ZENITHS⟩, ⟨_, PySem.W.mg_of X G g_MOST_WAYS⟩, ⟨_, PySem.W.mg_of X G g_GREATEST_SIZE⟩, PySem.W.mg_none_of X G m_abs, PySem.W.mg_none_of X G m_enumerate, PySem.W.mg_none_of X G m_len, PySem.W.mg_none_of X G m_range, ⟨_, _, F0, b0, PySem.W.mg_of X G a0⟩, ⟨_, _, F1, b1, PySem.W.mg_of X G a1⟩, ⟨_, _, F2, b2, PySem.W.mg_of X G a2⟩, ⟨_, _, F3, b3, PySem.W.mg_of X G a3⟩, ⟨_, _, F4, b4, PySem.W.mg_of X G a4⟩, ⟨_, _, F5, b5, PySem.W.mg_of X G a5⟩, ⟨_, _, F6, b6, PySem.W.mg_of X G a6⟩, ⟨_, _, F7, b7, PySem.W.mg_of X G a7⟩⟩
  exact ⟨PySem.W.fnOf "np_up" "np_up" (defArgs s_np_up) (defBody s_np_up) (defScope s_np_up) .none kV8 dc8 pm8 an8 cd8 ct8, fun s us hu => match us, hu with | [_, _, _], _ => .of_eq rfl, fun base _ _ => ok_np_up T ⟨F8, b8, PySem.W.mg_of X G a8⟩⟩
end NP
open PySem PySem.W PyProof.Rows
set_option maxRecDepth 100000 in
set_option maxHeartbeats 8000000 in
theorem PySem.Challenge.cw_nightplan_s01_np_up_holds : PySem.Challenge.rw_nightplan_s01_np_up.Holds := by
  w_on; k_headS; (case hw => exact ⟨[.int 0, .list [], .list []], by decide +kernel, by decide +kernel⟩)
  k_fillS
  refine L2.walk_specK (r := PySem.Challenge.rw_nightplan_s01_np_up) (k := 3) (CX := L2.CX0) (ps := ["t", "z", "l"]) (sp := NP.sp_np_up) (by decide +kernel) rfl rfl ⟨rfl, by decide, by decide⟩ (fun w h Y => PySem.W.kIn_of Y) ?F ?S (fun _ _ _ _ z => z)
  case F =>
    intro w mg fa h Y KX G hmg
    refine' NP.all_mk KX G hmg ?g_OUT_OF_RANGE ?g_WAY_TOO_LONG ?g_WORD_SPAN ?g_LONG_SPAN ?g_MOST_ZENITHS ?g_MOST_WAYS ?g_GREATEST_SIZE ?m_abs ?m_enumerate ?m_len ?m_range ?a0 ?l0 ?c0 ?k0 ?a1 ?l1 ?c1 ?k1 ?a2 ?l2 ?c2 ?k2 ?a3 ?l3 ?c3 ?k3 ?a4 ?l4 ?c4 ?k4 ?a5 ?l5 ?c5 ?k5 ?a6 ?l6 ?c6 ?k6 ?a7 ?l7 ?c7 ?k7 ?a8 ?l8 ?c8 ?k8
    (case g_OUT_OF_RANGE => k_is)
    (case g_WAY_TOO_LONG => k_is)
    (case g_WORD_SPAN => k_is)
    (case g_LONG_SPAN => k_is)
    (case g_MOST_ZENITHS => k_is)
    (case g_MOST_WAYS => k_is)
    (case g_GREATEST_SIZE => k_is)
    (case m_abs => k_is)
    (case m_enumerate => k_is)
    (case m_len => k_is)
    (case m_range => k_is)
    (case a0 => k_is)
    (case l0 => k_is)
    (case c0 => k_is)
    (case k0 => k_is)
    (case a1 => k_is)
    (case l1 => k_is)
    (case c1 => k_is)
    (case k1 => k_is)
    (case a2 => k_is)
    (case l2 => k_is)
    (case c2 => k_is)
    (case k2 => k_is)
    (case a3 => k_is)
    (case l3 => k_is)
    (case c3 => k_is)
    (case k3 => k_is)
    (case a4 => k_is)
    (case l4 => k_is)
    (case c4 => k_is)
    (case k4 => k_is)
    (case a5 => k_is)
    (case l5 => k_is)
    (case c5 => k_is)
    (case k5 => k_is)
    (case a6 => k_is)
    (case l6 => k_is)
    (case c6 => k_is)
    (case k6 => k_is)
    (case a7 => k_is)
    (case l7 => k_is)
    (case c7 => k_is)
    (case k7 => k_is)
    (case a8 => k_is)
    (case l8 => k_is)
    (case c8 => k_is)
    (case k8 => k_is)
  case S =>
    intro K H xs a hO hwi hask hx
    obtain ⟨t, z, l, u⟩ := a
    cases hx with
    | cons h1 h2 =>
      cases h2 with
      | cons h3 h4 =>
        cases h4 with
        | cons h5 h6 =>
          cases h6
          cases h1
          cases h3 with
          | lst hs ha =>
            cases h5 with
            | lst hs2 ha2 =>
              have e := L2.ints_dw z _ ha
              subst e
              have e := L2.ints_dw l _ ha2
              subst e
              have q : (Codec.inInt 0 18446744073709551615 t && ((Codec.inLen 0 198 z && z.all (Codec.inInt 0 4294967295)) && ((Codec.inLen 0 3078 l && l.all (Codec.inInt 0 4294967295)) && true))) = true := hwi
              rw [Bool.and_eq_true, Bool.and_eq_true, Bool.and_eq_true, Bool.and_eq_true, Bool.and_eq_true, List.all_eq_true, List.all_eq_true] at q
              obtain ⟨q1, ⟨q2, q3⟩, ⟨q4, q5⟩, _⟩ := q
              have r := NP.asked_up (t := t) (z := z) (l := l) hask
              exact ⟨t, _, _, z, l, rfl, hs, hs2, (Codec.inInt_iff.mp q1).1, (Codec.inInt_iff.mp q1).2, (Codec.inNat_iff.mp q2).2, (Codec.inNat_iff.mp q4).2, fun x hx => Codec.inInt_iff.mp (q3 x hx), fun x hx => Codec.inInt_iff.mp (q5 x hx), r.1, r.2, fun H' p hp => .lst (L2.SqL.of hp) (L2.dw_ints _)⟩
#print axioms PySem.Challenge.cw_nightplan_s01_np_up_holds

import PyProof.Rows.All
import Wide.All
import OpenK.AllK
import Wide.FinOn
import Open.SpecLaws
import KE.OsGo
import HandS.Base
import HandS.Call
import HandS.List
import HandS.Comp
import HandS.Ends
import HandS.Spec
import HandS.Words
import HandS.Iter
import HandS.Text
import HandS.Walk
import PySem.Challenge.RW_nightplan_s05_np_best
set_option Elab.async false
set_option maxRecDepth 100000
set_option maxHeartbeats 2000000
namespace NP
section
open Sh73
/-! ### masks -/
theorem ofBits_fold (f : Nat → Bool) : ∀ n : Nat, let r := (List.range n).foldl (fun (a : Nat) (i : Nat) => if f i = true then a + 2 ^ i else a) 0
    r < 2 ^ n ∧ ∀ i, r.testBit i = (decide (i < n) && f i)
  | 0 => ⟨Nat.zero_lt_one, fun i => by simp⟩
  | n + 1 => by
    have ih := ofBits_fold f n
    simp only at ih ⊢
    rw [List.range_succ, List.foldl_append]
    generalize (List.range n).foldl (fun (a : Nat) (i : Nat) => if f i = true then a + 2 ^ i else a) 0 = r at ih ⊢
    obtain ⟨h1, h2⟩ := ih
    simp only [List.foldl_cons, List.foldl_nil]
    have hp : 2 ^ (n + 1) = 2 ^ n + 2 ^ n := by rw [Nat.pow_succ]; omega
    cases hf : f n with
    | false =>
      simp only [Bool.false_eq_true, if_false]
      refine ⟨by omega, fun i => ?_⟩
      rw [h2]
      by_cases hi : i = n
      · subst hi
        simp [hf]
      · have : decide (i < n + 1) = decide (i < n) := decide_eq_decide.mpr (by omega)
        rw [this]
    | true =>
      simp only [if_true]
      refine ⟨by omega, fun i => ?_⟩
      rw [Nat.add_comm]
      by_cases hi : i = n
      · subst hi
        rw [Nat.testBit_two_pow_add_eq, h2]
        simp [hf]
      · by_cases hlt : i < n
        · rw [Nat.testBit_two_pow_add_gt hlt, h2]
          have : decide (i < n + 1) = decide (i < n) := decide_eq_decide.mpr (by omega)
          rw [this]
        · have hb : 2 ^ n + r < 2 ^ i := by
            have : 2 ^ (n + 1) ≤ 2 ^ i := Nat.pow_le_pow_right (by decide) (by omega)
            omega
          rw [Nat.testBit_lt_two_pow hb]
          have : decide (i < n + 1) = false := decide_eq_false (by omega)
          rw [this]
          rfl
theorem ofBits_lt (f : Nat → Bool) : ofBits f < 2 ^ 64 := (ofBits_fold f 64).1
theorem ofBits_bit (f : Nat → Bool) (i : Nat) : (ofBits f).testBit i = (decide (i < 64) && f i) := (ofBits_fold f 64).2 i
/-! ### starts -/
def stN (m : Nat) : Nat → Nat
  | 0 => 18446744073709551615
  | j + 1 => stN m j &&& (m >>> j)
theorem stN_bit (m : Nat) : ∀ d i : Nat, (stN m d).testBit i = (decide (i < 64) && (List.range d).all fun j => m.testBit (i + j))
  | 0, i => by
    show Nat.testBit (2 ^ 64 - 1) i = _
    rw [Nat.testBit_two_pow_sub_one]
    simp
  | d + 1, i => by
    show (stN m d &&& (m >>> d)).testBit i = _
    rw [Nat.testBit_and, stN_bit m d i, Nat.testBit_shiftRight, List.range_succ, List.all_append, Nat.add_comm d i]
    simp [Bool.and_assoc]
theorem bit_big {m i : Nat} (h : m < 2 ^ 64) (hi : 64 ≤ i) : m.testBit i = false :=
  Nat.testBit_lt_two_pow (Nat.lt_of_lt_of_le h (Nat.pow_le_pow_right (by decide) hi))
theorem starts_is {m : Nat} (h : m < 2 ^ 64) (d : Nat) : starts d m = stN m d := by
  refine Nat.eq_of_testBit_eq fun i => ?_
  unfold starts
  rw [ofBits_bit, stN_bit]
  unfold has
  by_cases hi : i < 64
  · by_cases hd : i + d ≤ 64
    · simp [hi, hd, SLOTS]
    · have h1 : decide (i + d ≤ SLOTS) = false := decide_eq_false hd
      rw [h1, Bool.false_and, Bool.and_false]
      have h2 : (List.range d).all (fun j => m.testBit (i + j)) = false := by
        rw [List.all_eq_false]
        exact ⟨d - 1, List.mem_range.mpr (by omega), by rw [bit_big h (by omega)]; decide⟩
      rw [h2, Bool.and_false]
  · simp [hi]
theorem stN_lt (m : Nat) : ∀ d, stN m d < 2 ^ 64
  | 0 => by show 18446744073709551615 < 2 ^ 64; decide
  | d + 1 => Nat.lt_of_le_of_lt Nat.and_le_left (stN_lt m d)
end
end NP
/-! ### words that every def's proof uses -/
namespace NP
open PySem PySem.Spec PyProof.Rows L2
open PySem.W (Codec)
theorem ift {c : Bool} {A B : Prop} (hc : c = true) (h : A) : if c = true then A else B := by
  subst hc
  exact h
theorem iff_ {c : Bool} {A B : Prop} (hc : c = false) (h : B) : if c = true then A else B := by
  subst hc
  exact h
theorem take_snoc {α : Type} {l : List α} {i : Nat} {x : α} (h : l[i]? = some x) : l.take (i + 1) = l.take i ++ [x] := by
  rw [List.take_add_one, h]
  rfl
theorem int_at {ns : List Int} {i : Nat} {y : V} (hi : (ns.map V.int)[i]? = some y) : ∃ z, ns[i]? = some z ∧ y = V.int z := by
  rw [List.getElem?_map, Option.map_eq_some_iff] at hi
  obtain ⟨z, h1, h2⟩ := hi
  exact ⟨z, h1, h2.symm⟩
theorem new_same {H : Hp} {p : Addr} {o : HO} (h : H p = none) : Same H (upd H p o) := fun _ _ e => (upd_ne (ne_of_none e h)).trans e
/-- a list that grows at a place that was new stays apart from what stood -/
theorem grow_same {H H' : Hp} {D : Addr} {o : HO} (hD : H D = none) (s : Same H H') : Same H (upd H' D o) := fun b x e => (upd_ne (ne_of_none e hD)).trans (s b x e)
theorem pe_gi {X : Cx} {x : Str} {i : Int} {pos : Pos} (hg : Gl X x) (hm : ∃ t, X.mg x = some (.int i t)) (hd : (x == ("__debug__" : Str)) = false := by decide) : PE X (.Name x pos) (tC (.int i)) :=
  hm.elim fun t e => pe_glob (v := .int i) hg e ⟨t, rfl⟩ hd
def allB (ns : List Int) (span : Int) : Bool := ns.all fun x => !(decide (x < 0) || decide (span ≤ x))
theorem allB_snoc {ns : List Int} {span z : Int} {i : Nat} (h : ns[i]? = some z) : allB (ns.take (i + 1)) span = (allB (ns.take i) span && !(decide (z < 0) || decide (span ≤ z))) := by
  unfold allB
  rw [take_snoc h, List.all_append]
  simp
theorem allB_not {ns : List Int} {span z : Int} {i : Nat} (h : ns[i]? = some z) (hz : (decide (z < 0) || decide (span ≤ z)) = true) : allB ns span = false := by
  unfold allB
  rw [List.all_eq_false]
  exact ⟨z, List.mem_of_getElem? h, by rw [hz]; decide⟩
theorem allB_true {ns : List Int} {span : Int} (h : ∀ x ∈ ns, 0 ≤ x ∧ x < span) : allB ns span = true := by
  unfold allB
  rw [List.all_eq_true]
  intro x hx
  have := h x hx
  simp
  omega
end NP
/-! ### np_up as the program says it -/
namespace NP
section
open Sh73
def sgn (n span : Int) : Int := if span / 2 ≤ n then n - span else n
def smallB (ns : List Int) : Bool := ns.all fun x => !(decide (16777216 < (if x < 0 then -x else x)))
abbrev Tri : Type := Int × Int × Int
def triAt (ns : List Int) (i : Nat) : Tri := (ns.getD (3 * i) 0, ns.getD (3 * i + 1) 0, ns.getD (3 * i + 2) 0)
def thr (ns : List Int) : List Tri := (List.range (ns.length / 3)).map (triAt ns)
def dotP (a b : Tri) : Int := a.1 * b.1 + a.2.1 * b.2.1 + a.2.2 * b.2.2
def upN (t : Int) (zs : List Tri) (w : Tri) : Nat → Nat
  | 0 => 0
  | i + 1 => if t ≤ dotP w (zs.getD i (0, 0, 0)) then upN t zs w i ||| 2 ^ i else upN t zs w i
theorem upN_bit (t : Int) (zs : List Tri) (w : Tri) : ∀ n i : Nat, (upN t zs w n).testBit i = (decide (i < n) && decide (t ≤ dotP w (zs.getD i (0, 0, 0))))
  | 0, i => by
    show Nat.testBit 0 i = _
    simp
  | n + 1, i => by
    unfold upN
    by_cases c : t ≤ dotP w (zs.getD n (0, 0, 0))
    · rw [if_pos c, Nat.testBit_or, upN_bit t zs w n i, Nat.testBit_two_pow]
      by_cases e : n = i
      · subst e
        rw [decide_eq_true rfl, Bool.or_true, decide_eq_true c, decide_eq_true (Nat.lt_succ_self n)]
        rfl
      · have h1 : decide (n = i) = false := decide_eq_false e
        have h2 : decide (i < n + 1) = decide (i < n) := decide_eq_decide.mpr (by omega)
        rw [h1, h2, Bool.or_false]
    · rw [if_neg c, upN_bit t zs w n i]
      by_cases e : n = i
      · subst e
        rw [decide_eq_false c, Bool.and_false, Bool.and_false]
      · have h2 : decide (i < n + 1) = decide (i < n) := decide_eq_decide.mpr (by omega)
        rw [h2]
def upP (t : Int) (z l : List Int) : List Int :=
  if ¬ ((z.length : Int) ≤ 192 ∧ (l.length : Int) ≤ 3072) then [-2]
  else if smallB (z.map (sgn · 4294967296)) = false ∨ smallB (l.map (sgn · 4294967296)) = false then [-3]
  else 0 :: (thr (l.map (sgn · 4294967296))).map fun w => ((upN (sgn t 18446744073709551616) (thr (z.map (sgn · 4294967296))) w (z.length / 3) : Nat) : Int)
theorem sgn32 {x : Int} (h0 : 0 ≤ x) : sgn x 4294967296 = signed32 x.toNat := by
  unfold sgn signed32
  split <;> split <;> omega
theorem sgn64 {x : Int} (h0 : 0 ≤ x) : sgn x 18446744073709551616 = signed64 x.toNat := by
  unfold sgn signed64
  split <;> split <;> omega
def wayOf (w : Tri) : Way := ⟨w.1, w.2.1, w.2.2⟩
theorem getD_sgn {z : List Int} (h : ∀ x ∈ z, 0 ≤ x) (j : Nat) (hj : j < z.length) : (z.map (sgn · 4294967296)).getD j 0 = signed32 (num (Sh73Neutral.nats z) j) := by
  unfold num Sh73Neutral.nats
  rw [List.getD_eq_getElem?_getD, List.getD_eq_getElem?_getD, List.getElem?_map, List.getElem?_map, List.getElem?_eq_getElem hj]
  exact sgn32 (h _ (List.getElem_mem hj))
theorem ways_thr {z : List Int} (h : ∀ x ∈ z, 0 ≤ x) (h3 : z.length = 3 * (z.length / 3)) : ways (Sh73Neutral.nats z) = (thr (z.map (sgn · 4294967296))).map wayOf := by
  unfold ways thr
  have e1 : (Sh73Neutral.nats z).length = z.length := List.length_map ..
  have e2 : (z.map (sgn · 4294967296)).length = z.length := List.length_map ..
  rw [e1, e2, List.map_map]
  refine List.map_congr_left fun i hi => ?_
  have hi' := List.mem_range.mp hi
  unfold triAt wayOf
  simp only [Function.comp]
  rw [getD_sgn h _ (by omega), getD_sgn h _ (by omega), getD_sgn h _ (by omega)]
theorem abs_le (x : Int) : (!(decide (16777216 < (if x < 0 then -x else x)))) = decide (x.natAbs ≤ 16777216) := by
  by_cases c : x.natAbs ≤ 16777216
  · rw [decide_eq_true c, decide_eq_false (by split <;> omega)]
    rfl
  · rw [decide_eq_false c, decide_eq_true (by split <;> omega)]
    rfl
theorem fine_iff (w : Tri) : fine (wayOf w) = true ↔ w.1.natAbs ≤ 16777216 ∧ w.2.1.natAbs ≤ 16777216 ∧ w.2.2.natAbs ≤ 16777216 := by
  unfold fine wayOf
  simp
theorem small_thr {ns : List Int} (h3 : ns.length = 3 * (ns.length / 3)) : ((thr ns).map wayOf).all fine = smallB ns := by
  rw [Bool.eq_iff_iff, List.all_eq_true, smallB, List.all_eq_true]
  constructor
  · intro h x hx
    rw [abs_le, decide_eq_true_eq]
    obtain ⟨j, hj, rfl⟩ := List.mem_iff_getElem.mp hx
    have hm : triAt ns (j / 3) ∈ thr ns := List.mem_map.mpr ⟨j / 3, List.mem_range.mpr (by omega), rfl⟩
    have hf := (fine_iff _).mp (h _ (List.mem_map_of_mem hm))
    unfold triAt at hf
    have hr : j = 3 * (j / 3) ∨ j = 3 * (j / 3) + 1 ∨ j = 3 * (j / 3) + 2 := by omega
    have g : ∀ k, k = j → ns.getD k 0 = ns[j] := fun k e => by
      subst e
      rw [List.getD_eq_getElem?_getD, List.getElem?_eq_getElem hj]
      rfl
    rcases hr with e | e | e
    · rw [← g _ e.symm]; exact hf.1
    · rw [← g _ e.symm]; exact hf.2.1
    · rw [← g _ e.symm]; exact hf.2.2
  · intro h v hv
    obtain ⟨w, hw, rfl⟩ := List.mem_map.mp hv
    obtain ⟨i, hi, rfl⟩ := List.mem_map.mp hw
    have hi' := List.mem_range.mp hi
    rw [fine_iff]
    have g : ∀ k, k < ns.length → (ns.getD k 0).natAbs ≤ 16777216 := fun k hk => by
      rw [List.getD_eq_getElem?_getD, List.getElem?_eq_getElem hk]
      have := h _ (List.getElem_mem hk)
      rw [abs_le, decide_eq_true_eq] at this
      exact this
    exact ⟨g _ (by omega), g _ (by omega), g _ (by omega)⟩
theorem dot_is (a b : Tri) : dot (wayOf a) (wayOf b) = dotP b a := by
  unfold dot wayOf dotP
  simp only
  rw [Int.mul_comm a.1, Int.mul_comm a.2.1, Int.mul_comm a.2.2]
theorem up_is (t : Int) (zs : List Tri) (w : Tri) (h : zs.length ≤ 64) : up t (zs.map wayOf) (wayOf w) = upN t zs w zs.length := by
  refine Nat.eq_of_testBit_eq fun i => ?_
  unfold up
  rw [ofBits_bit, upN_bit, List.getElem?_map]
  by_cases hi : i < zs.length
  · rw [List.getElem?_eq_getElem hi, List.getD_eq_getElem?_getD, List.getElem?_eq_getElem hi]
    simp only [Option.map_some, Option.getD_some, dot_is]
    have h1 : decide (i < 64) = true := decide_eq_true (by omega)
    have h2 : decide (i < zs.length) = true := decide_eq_true hi
    rw [h1, h2]
  · rw [List.getElem?_eq_none (by omega)]
    have h2 : decide (i < zs.length) = false := decide_eq_false hi
    rw [h2]
    simp
theorem thr_len (ns : List Int) : (thr ns).length = ns.length / 3 := by
  unfold thr
  rw [List.length_map, List.length_range]
theorem up_ok (t : Int) (z l : List Int) (ht : 0 ≤ t) (hz : ∀ x ∈ z, 0 ≤ x) (hl : ∀ x ∈ l, 0 ≤ x) (z3 : z.length = 3 * (z.length / 3)) (l3 : l.length = 3 * (l.length / 3)) : upP t z l = PySh73.np_up t z l := by
  have e1 : (Sh73Neutral.nats z).length = z.length := List.length_map ..
  have e2 : (Sh73Neutral.nats l).length = l.length := List.length_map ..
  have m1 : (z.map (sgn · 4294967296)).length = z.length := List.length_map ..
  have m2 : (l.map (sgn · 4294967296)).length = l.length := List.length_map ..
  unfold upP PySh73.np_up Sh73Neutral.f
  simp only [Sh73Neutral.callOf, Sh73.few, e1, e2]
  by_cases c : (z.length : Int) ≤ 192 ∧ (l.length : Int) ≤ 3072
  · rw [if_neg (by simpa using c)]
    have h1 : decide (l.length / 3 ≤ 1024) = true := decide_eq_true (by omega)
    have h2 : decide (z.length / 3 ≤ 64) = true := decide_eq_true (by omega)
    rw [h1, h2]
    simp only [Bool.and_self, if_true, Sh73.answer]
    rw [ways_thr hz z3, ways_thr hl l3, small_thr (by rw [m1]; exact z3), small_thr (by rw [m2]; exact l3)]
    by_cases d : smallB (z.map (sgn · 4294967296)) = false ∨ smallB (l.map (sgn · 4294967296)) = false
    · rw [if_pos d, if_pos d]
      rfl
    · rw [if_neg d, if_neg d]
      simp only [Sh73.done, Sh73Neutral.told, Sh73Neutral.ints, List.map_map]
      refine congrArg (0 :: ·) (List.map_congr_left fun w hw => ?_)
      simp only [Function.comp]
      rw [sgn64 ht, up_is _ _ _ (by rw [thr_len, m1]; omega), thr_len, m1]
  · rw [if_pos c]
    by_cases h1 : l.length / 3 ≤ 1024
    · have h2 : decide (z.length / 3 ≤ 64) = false := decide_eq_false (by omega)
      rw [h2, Bool.and_false]
      rfl
    · rw [decide_eq_false h1, Bool.false_and]
      rfl
end
end NP
/-! ### the best of jobs, by how many have ended -/
namespace NP
section
open Sh73
def natL (l : List Nat) : List Int := l.map fun (x : Nat) => (x : Int)
def J0 : Job := ⟨0, 0, 0⟩
/-- jobs one behind another, each told as it stands -/
def ordF : Nat → List Job → Bool
  | _, [] => true
  | t, j :: r => decide (j.from_ < j.to) && decide (t ≤ j.to) && ordF j.to r
theorem ordF_is : ∀ (l : List Job) (t : Nat), ordF t l = (proper l && (match l.head? with | none => true | some j => decide (t ≤ j.to)))
  | [], t => rfl
  | [j], t => by
    unfold ordF ordF proper
    simp
  | j :: k :: r, t => by
    have ih := ordF_is (k :: r) j.to
    unfold ordF
    rw [ih]
    unfold proper
    simp only [List.head?_cons, List.all_cons, List.drop_succ_cons, List.drop_zero, List.zip_cons_cons]
    rw [Bool.eq_iff_iff]
    simp only [Bool.and_eq_true]
    constructor
    · rintro ⟨⟨h1, h2⟩, ⟨⟨h3, h4⟩, h5⟩, h6⟩
      exact ⟨⟨⟨h1, h3, h4⟩, h6, h5⟩, h2⟩
    · rintro ⟨⟨⟨h1, h3, h4⟩, h6, h5⟩, h2⟩
      exact ⟨⟨h1, h2⟩, ⟨⟨h3, h4⟩, h5⟩, h6⟩
theorem ordF_zero (l : List Job) : ordF 0 l = proper l := by
  rw [ordF_is]
  cases l with
  | nil => rfl
  | cons j r => simp
theorem ordF_le : ∀ (l : List Job) (t : Nat), ordF t l = true → (∀ j ∈ l, t ≤ j.to ∧ j.from_ < j.to) ∧ l.Pairwise (fun a b => a.to ≤ b.to)
  | [], _, _ => ⟨fun _ h => absurd h List.not_mem_nil, List.Pairwise.nil⟩
  | j :: r, t, h => by
    unfold ordF at h
    rw [Bool.and_eq_true, Bool.and_eq_true, decide_eq_true_eq, decide_eq_true_eq] at h
    obtain ⟨ih1, ih2⟩ := ordF_le r j.to h.2
    refine ⟨fun x hx => ?_, List.pairwise_cons.mpr ⟨fun x hx => (ih1 x hx).1, ih2⟩⟩
    rcases List.mem_cons.mp hx with rfl | hx
    · exact ⟨h.1.2, h.1.1⟩
    · have := ih1 x hx
      exact ⟨by omega, this.2⟩
def cnt (l : List Job) (t : Nat) : Nat := (l.filter fun j => decide (j.to ≤ t)).length
theorem cnt_le (l : List Job) (t : Nat) : cnt l t ≤ l.length := List.length_filter_le ..
theorem cnt_iff : ∀ (l : List Job) (t n : Nat), l.Pairwise (fun a b => a.to ≤ b.to) → n < l.length → ((l.getD n J0).to ≤ t ↔ n < cnt l t)
  | [], _, _, _, h => absurd h (by simp)
  | j :: r, t, n, hp, hn => by
    obtain ⟨h1, h2⟩ := List.pairwise_cons.mp hp
    by_cases c : j.to ≤ t
    · have e : cnt (j :: r) t = cnt r t + 1 := by
        unfold cnt
        rw [List.filter_cons, if_pos (decide_eq_true c)]
        rfl
      rw [e]
      cases n with
      | zero => exact ⟨fun _ => by omega, fun _ => c⟩
      | succ n =>
        have := cnt_iff r t n h2 (by simpa using hn)
        rw [List.getD_cons_succ, this]
        omega
    · have e : cnt (j :: r) t = 0 := by
        unfold cnt
        rw [List.length_eq_zero_iff, List.filter_eq_nil_iff]
        intro x hx
        rw [decide_eq_true_eq]
        rcases List.mem_cons.mp hx with rfl | hx
        · exact c
        · have := h1 x hx
          omega
      rw [e]
      refine ⟨fun h => ?_, fun h => absurd h (by omega)⟩
      exfalso
      cases n with
      | zero => exact c h
      | succ n =>
        have hm : r.getD n J0 ∈ r := by
          have hn' : n < r.length := by simpa using hn
          rw [List.getD_eq_getElem?_getD, List.getElem?_eq_getElem hn']
          exact List.getElem_mem hn'
        have := h1 _ hm
        rw [List.getD_cons_succ] at h
        omega
theorem best_succ (l : List Job) (n t : Nat) : best l (n + 1) t = if (l.getD n J0).to ≤ t then max (best l n t) ((l.getD n J0).worth + best l n (l.getD n J0).from_) else best l n t := rfl
theorem chosen_succ (l : List Job) (n t : Nat) : chosen l (n + 1) t = if (l.getD n J0).to ≤ t ∧ best l n t < (l.getD n J0).worth + best l n (l.getD n J0).from_ then chosen l n (l.getD n J0).from_ ++ [n] else chosen l n t := rfl
theorem getD_mem {l : List Job} {n : Nat} (h : n < l.length) : l.getD n J0 ∈ l := by
  rw [List.getD_eq_getElem?_getD, List.getElem?_eq_getElem h]
  exact List.getElem_mem h
theorem best_cnt {l : List Job} {T : Nat} (hp : l.Pairwise (fun a b => a.to ≤ b.to)) (hT : ∀ j ∈ l, j.to ≤ T) (t : Nat) : ∀ k, k ≤ l.length → best l k t = best l (min k (cnt l t)) T
  | 0, _ => by
    rw [Nat.zero_min]
    rfl
  | k + 1, h => by
    have ih := best_cnt hp hT t k (by omega)
    have ci := cnt_iff l t k hp (by omega)
    rw [best_succ]
    by_cases c : (l.getD k J0).to ≤ t
    · have h1 := ci.mp c
      have e1 : min (k + 1) (cnt l t) = k + 1 := by omega
      have e2 : min k (cnt l t) = k := by omega
      rw [if_pos c, e1, best_succ, if_pos (hT _ (getD_mem (by omega))), ih, e2]
    · have h1 : ¬ k < cnt l t := fun z => c (ci.mpr z)
      have e1 : min (k + 1) (cnt l t) = min k (cnt l t) := by omega
      rw [if_neg c, e1, ih]
/-- the best worth of so many first jobs -/
theorem best_step {l : List Job} {T k : Nat} (ho : ordF 0 l = true) (hT : ∀ j ∈ l, j.to ≤ T) (hk : k < l.length) :
    best l (k + 1) T = max (best l k T) ((l.getD k J0).worth + best l (cnt l (l.getD k J0).from_) T) ∧ cnt l (l.getD k J0).from_ ≤ k := by
  obtain ⟨h1, hp⟩ := ordF_le l 0 ho
  have hm := getD_mem hk
  have hc : cnt l (l.getD k J0).from_ ≤ k := by
    have := cnt_iff l (l.getD k J0).from_ k hp hk
    have hf := (h1 _ hm).2
    by_cases z : k < cnt l (l.getD k J0).from_
    · have := this.mpr z
      omega
    · omega
  refine ⟨?_, hc⟩
  rw [best_succ, if_pos (hT _ hm), best_cnt hp hT (l.getD k J0).from_ k (by omega)]
  have e : min k (cnt l (l.getD k J0).from_) = cnt l (l.getD k J0).from_ := by omega
  rw [e]
theorem chosen_step {l : List Job} {T k t : Nat} (ho : ordF 0 l = true) (hT : ∀ j ∈ l, j.to ≤ T) (hk : k < l.length) :
    chosen l (k + 1) t = if (l.getD k J0).to ≤ t ∧ best l k T < best l (k + 1) T then chosen l k (l.getD k J0).from_ ++ [k] else chosen l k t := by
  obtain ⟨h1, hp⟩ := ordF_le l 0 ho
  rw [chosen_succ]
  by_cases c : (l.getD k J0).to ≤ t
  · have e : best l k t = best l k T := by
      have := (cnt_iff l t k hp hk).mp c
      have e : min k (cnt l t) = k := by omega
      rw [best_cnt hp hT t k (by omega), e]
    have e2 : best l (k + 1) T = max (best l k T) ((l.getD k J0).worth + best l k (l.getD k J0).from_) := by
      rw [best_succ, if_pos (hT _ (getD_mem hk))]
    rw [e, e2]
    by_cases d : best l k T < (l.getD k J0).worth + best l k (l.getD k J0).from_
    · rw [if_pos ⟨c, d⟩, if_pos ⟨c, by omega⟩]
    · rw [if_neg (fun z => d z.2), if_neg (fun z => d (by have := z.2; omega))]
  · rw [if_neg (fun z => c z.1), if_neg (fun z => c z.1)]
theorem chosen_sum (l : List Job) : ∀ k t, ((chosen l k t).map fun i => (l.getD i J0).worth).sum = best l k t
  | 0, _ => rfl
  | k + 1, t => by
    rw [chosen_succ, best_succ]
    by_cases c : (l.getD k J0).to ≤ t ∧ best l k t < (l.getD k J0).worth + best l k (l.getD k J0).from_
    · rw [if_pos c, if_pos c.1, List.map_append, List.sum_append, chosen_sum l k]
      simp only [List.map_cons, List.map_nil, List.sum_cons, List.sum_nil]
      omega
    · rw [if_neg c, chosen_sum l k]
      by_cases d : (l.getD k J0).to ≤ t
      · rw [if_pos d]
        have : ¬ best l k t < (l.getD k J0).worth + best l k (l.getD k J0).from_ := fun z => c ⟨d, z⟩
        omega
      · rw [if_neg d]
theorem chosen_len (l : List Job) : ∀ k t, (chosen l k t).length ≤ k
  | 0, _ => Nat.le_refl _
  | k + 1, t => by
    rw [chosen_succ]
    split
    · rw [List.length_append, List.length_singleton]
      have := chosen_len l k (l.getD k J0).from_
      omega
    · have := chosen_len l k t
      omega
def topE (l : List Job) : Nat := l.foldl (fun (a : Nat) (j : Job) => max a j.to) 0
theorem topE_fold : ∀ (l : List Job) (t : Nat), ordF t l = true → l.foldl (fun (a : Nat) (j : Job) => max a j.to) t = (l.getLast?.map (·.to)).getD t
  | [], _, _ => rfl
  | j :: r, t, h => by
    unfold ordF at h
    rw [Bool.and_eq_true, Bool.and_eq_true, decide_eq_true_eq, decide_eq_true_eq] at h
    rw [List.foldl_cons]
    have e : max t j.to = j.to := by omega
    rw [e, topE_fold r j.to h.2, List.getLast?_cons]
    cases r.getLast? <;> rfl
theorem topE_last {l : List Job} (ho : ordF 0 l = true) (hn : 0 < l.length) : topE l = (l.getD (l.length - 1) J0).to := by
  unfold topE
  rw [topE_fold l 0 ho, List.getLast?_eq_getElem?, List.getD_eq_getElem?_getD, List.getElem?_eq_getElem (by omega)]
  rfl
theorem fold_ge : ∀ (l : List Job) (t : Nat), t ≤ l.foldl (fun (a : Nat) (j : Job) => max a j.to) t ∧ ∀ j ∈ l, j.to ≤ l.foldl (fun (a : Nat) (j : Job) => max a j.to) t
  | [], t => ⟨Nat.le_refl _, fun _ h => by cases h⟩
  | j :: r, t => by
    rw [List.foldl_cons]
    obtain ⟨h1, h2⟩ := fold_ge r (max t j.to)
    refine ⟨by omega, fun x hx => ?_⟩
    rcases List.mem_cons.mp hx with rfl | hx
    · omega
    · exact h2 x hx
theorem topE_ge (l : List Job) : ∀ j ∈ l, j.to ≤ topE l := (fold_ge l 0).2
/-- the worths, from none on -/
def wl (l : List Job) (k : Nat) : List Int := (List.range (k + 1)).map fun i => ((best l i (topE l) : Nat) : Int)
theorem wl_len (l : List Job) (k : Nat) : (wl l k).length = k + 1 := by
  unfold wl
  rw [List.length_map, List.length_range]
theorem wl_at (l : List Job) {k i : Nat} (h : i ≤ k) : (wl l k)[i]? = some ((best l i (topE l) : Nat) : Int) := by
  unfold wl
  rw [List.getElem?_map, List.getElem?_range (by omega)]
  rfl
theorem wl_succ (l : List Job) (k : Nat) : wl l (k + 1) = wl l k ++ [((best l (k + 1) (topE l) : Nat) : Int)] := by
  unfold wl
  rw [List.range_succ, List.map_append]
  rfl
def triOf (j : Job) : Int × Int × Int := ((j.from_ : Int), (j.to : Int), (j.worth : Int))
def jobsOf (rows : List Int) : List Job := jobs (Sh73Neutral.nats rows)
theorem jobsOf_len (rows : List Int) : (jobsOf rows).length = rows.length / 3 := by
  unfold jobsOf jobs Sh73Neutral.nats
  rw [List.length_map, List.length_range, List.length_map]
def bestP (rows : List Int) : List Int :=
  if ¬ (rows.length : Int) ≤ 48 then [-2] else if ordF 0 (jobsOf rows) = false then [-3]
  else let r := chosen (jobsOf rows) (jobsOf rows).length (topE (jobsOf rows))
    [((r.length : Nat) : Int), ((r.length : Nat) : Int)] ++ (r.map fun (x : Nat) => (x : Int)) ++ [1, ((best (jobsOf rows) (jobsOf rows).length (topE (jobsOf rows)) : Nat) : Int)]
theorem best_ok (rows : List Int) (h3 : rows.length = 3 * (rows.length / 3)) : bestP rows = PySh73.np_best rows := by
  have e1 : (Sh73Neutral.nats rows).length = rows.length := List.length_map ..
  unfold bestP PySh73.np_best Sh73Neutral.f
  simp only [Sh73Neutral.callOf, Sh73.some_, e1]
  by_cases c : (rows.length : Int) ≤ 48
  · rw [if_neg (by omega)]
    have : decide (rows.length / 3 ≤ 16) = true := decide_eq_true (by omega)
    rw [this]
    simp only [if_true, Sh73.answer]
    rw [show jobs (Sh73Neutral.nats rows) = jobsOf rows from rfl, ordF_zero]
    by_cases d : proper (jobsOf rows) = false
    · rw [if_pos d, if_pos d]
      rfl
    · rw [if_neg d, if_neg d]
      rw [← chosen_sum]
      simp only [Sh73.many, Sh73Neutral.told, Sh73Neutral.ints, List.flatMap_cons, List.flatMap_nil, List.append_nil, List.map_cons, List.map_nil, List.length_cons, List.length_nil, List.cons_append, List.nil_append]
      rfl
  · rw [if_pos c]
    have : decide (rows.length / 3 ≤ 16) = false := decide_eq_false (by omega)
    rw [this]
    rfl
end
end NP
namespace NP
open PySem PySem.Spec PyProof.Rows L2
open PySem.W (Codec)
def top (i : Nat) : Stmt := PySem.Challenge.pw_nightplan_s05_np_best.main.body.getD i (.Pass ⟨0, 0, 0, 0⟩)
abbrev s_all_below : Stmt := top 5
abbrev s_words_in_range : Stmt := top 6
abbrev s_in_threes : Stmt := top 7
abbrev s_jobs_in_order : Stmt := top 8
abbrev s_ended_by : Stmt := top 9
abbrev s_best_worths : Stmt := top 10
abbrev s_chosen_jobs : Stmt := top 11
abbrev s_two_lists : Stmt := top 12
abbrev s_np_best : Stmt := top 13
/-- a def as the top has left it: its text, how it binds, its name -/
structure Def (K : PySem.W.Frag) (mg : Str → Option Value) (x : Str) (st : Stmt) (ps : List Str) (f : Addr) (fd : FuncData) : Prop where
  F : Fun K x x st f fd
  b : Binds K fd ps []
  g : mg x = some (.ref f)
structure Txt (K : PySem.W.Frag) (mg : Str → Option Value) : Prop where
  g_OUT_OF_RANGE : ∃ t, mg "OUT_OF_RANGE" = some (.int (-2) t)
  g_JOBS_OUT_OF_ORDER : ∃ t, mg "JOBS_OUT_OF_ORDER" = some (.int (-3) t)
  g_WORD_SPAN : ∃ t, mg "WORD_SPAN" = some (.int 4294967296 t)
  g_MOST_JOBS : ∃ t, mg "MOST_JOBS" = some (.int 16 t)
  m_len : mg "len" = none
  m_max : mg "max" = none
  m_range : mg "range" = none
  d_all_below : ∃ f fd, Def K mg "all_below" s_all_below ["numbers", "span"] f fd
  d_words_in_range : ∃ f fd, Def K mg "words_in_range" s_words_in_range ["words", "most"] f fd
  d_in_threes : ∃ f fd, Def K mg "in_threes" s_in_threes ["numbers"] f fd
  d_jobs_in_order : ∃ f fd, Def K mg "jobs_in_order" s_jobs_in_order ["jobs"] f fd
  d_ended_by : ∃ f fd, Def K mg "ended_by" s_ended_by ["jobs", "moment"] f fd
  d_best_worths : ∃ f fd, Def K mg "best_worths" s_best_worths ["jobs"] f fd
  d_chosen_jobs : ∃ f fd, Def K mg "chosen_jobs" s_chosen_jobs ["jobs", "worths"] f fd
  d_two_lists : ∃ f fd, Def K mg "two_lists" s_two_lists ["numbers", "together"] f fd
section
variable {P : Program} {w : World} {K : PySem.W.Frag} {mg : Str → Option Value} {base : Heap}
/-! ### all_below -/
def sp_all_below (K : PySem.W.Frag) : Sp := fun vs H Q _ => ∃ (a : Addr) (ns : List Int) (span : Int), vs = [.ref a, .int span] ∧ SqL K H a (ns.map V.int) ∧ Q (.bl (allB ns span)) H
theorem sc_all_below : FnScope ["numbers", "span", "number"] ["numbers", "span"] (defScope s_all_below) := ⟨rfl, rfl, rfl, by decide +kernel, rfl, by decide +kernel, by decide +kernel⟩
theorem ok_all_below {f : Addr} {fd : FuncData} {k : Nat} (D : Def K mg "all_below" s_all_below ["numbers", "span"] f fd) : FnOk P w K mg base CX0 (k + 1) f fd ["numbers", "span"] (sp_all_below K) := by
  refine D.F.ok sc_all_below (fun vs H Q E h => ?_) (fun cdv A outer s H vs Q E hr h => ?_)
  · obtain ⟨a, ns, span, rfl, _⟩ := h
    rfl
  · obtain ⟨a, ns, span, rfl, hS, q⟩ := h
    refine ⟨_, pss_cons (ps_for PassesOwn.never rfl (pi_list (pv 0)) (pg_name (i := 2) sc_all_below.nd rfl (.inl rfl))
        (pss_one (ps_if (PW.pt (pw_or (pt_cmpR op_lt (pv 2) pe_int (nomark _)) (pw_or1 (pt_cmpR op_ge (pv 2) (pv 1) (nomark _))))) (pss_one (ps_ret pe_bl)) pss_nil)))
      (pss_one (ps_ret pe_bl)), ?_⟩
    refine ⟨_, rfl, a, rfl, ⟨_, hS⟩, for_list (K := K) (a := a) (xs := ns.map V.int) (fun i σ H' => (∃ v, σ = [some (.ref a), some (.int span), v]) ∧ H' = H ∧ allB (ns.take i) span = true)
      ⟨⟨none, rfl⟩, rfl, rfl⟩ (fun i σ H' _ ⟨_, e, _⟩ => e ▸ hS) ?_ ?_⟩
    · rintro i y σ H' hi ⟨⟨v, rfl⟩, rfl, hb⟩
      obtain ⟨z, hz, rfl⟩ := int_at hi
      refine ⟨_, rfl, z, 0, rfl, rfl, _, rfl, ?_⟩
      by_cases c : z < 0
      · refine ift (decide_eq_true c) ?_
        rw [allB_not hz (by simp [c])] at q
        exact q
      · refine iff_ (decide_eq_false c) ?_
        refine ⟨_, rfl, _, rfl, z, span, rfl, rfl, _, rfl, ?_⟩
        by_cases c2 : span ≤ z
        · refine ift (decide_eq_true c2) ?_
          rw [allB_not hz (by simp [c2])] at q
          exact q
        · refine iff_ (decide_eq_false c2) ?_
          refine ⟨⟨_, rfl⟩, rfl, ?_⟩
          rw [allB_snoc hz, hb]
          simp [c, c2]
    · rintro σ H' ⟨⟨v, rfl⟩, rfl, hb⟩
      rw [List.length_map, List.take_length] at hb
      rw [hb] at q
      exact q
/-! ### words_in_range -/
def sp_words_in_range (K : PySem.W.Frag) : Sp := fun vs H Q _ => ∃ (a : Addr) (ns : List Int) (most : Int), vs = [.ref a, .int most] ∧ SqL K H a (ns.map V.int) ∧ Q (.bl (decide ((ns.length : Int) ≤ most) && allB ns 4294967296)) H
theorem sc_words_in_range : FnScope ["words", "most"] ["words", "most"] (defScope s_words_in_range) := ⟨rfl, rfl, rfl, by decide +kernel, rfl, by decide +kernel, by decide +kernel⟩
theorem ok_words_in_range {f : Addr} {fd : FuncData} {k : Nat} (T : Txt K mg) (D : Def K mg "words_in_range" s_words_in_range ["words", "most"] f fd) : FnOk P w K mg base CX0 (k + 2) f fd ["words", "most"] (sp_words_in_range K) := by
  obtain ⟨fA, fdA, DA⟩ := T.d_all_below
  have GA : FnOk P w K mg base CX0 (k + 1) fA fdA ["numbers", "span"] (sp_all_below K) := ok_all_below DA
  refine D.F.ok sc_words_in_range (fun vs H Q E h => ?_) (fun cdv A outer s H vs Q E hr h => ?_)
  · obtain ⟨a, ns, most, rfl, _⟩ := h
    rfl
  · obtain ⟨a, ns, most, rfl, hS, q⟩ := h
    refine ⟨_, pss_one (ps_ret (pe_and (pe_cmpR op_le (pe_callB call_len_seq (by rfl) T.m_len PySem.boot_len (pa_cons (pv 0) pa_nil)) (pv 1) (nomark _))
      (pe_one (pe_call GA hr rfl DA.g DA.F.kp DA.b .nil pass0 (pa_cons (pv 0) (pa_cons (pe_gi rfl T.g_WORD_SPAN) pa_nil)))))), ?_⟩
    refine ⟨_, rfl, a, _, rfl, .inl hS, _, rfl, _, _, rfl, rfl, _, rfl, ?_⟩
    rw [List.length_map]
    by_cases c : (ns.length : Int) ≤ most
    · refine ift (decide_eq_true c) ?_
      rw [decide_eq_true c, Bool.true_and] at q
      exact ⟨_, rfl, a, ns, _, rfl, hS, q⟩
    · refine iff_ (decide_eq_false c) ?_
      rw [decide_eq_false c, Bool.false_and] at q
      exact q
/-! ### in_threes -/
def tupV (u : Tri) : HO := .tup [.int u.1, .int u.2.1, .int u.2.2]
/-- tuples of three at these addresses -/
def TupsAt (H : Hp) (rs : List Addr) (ws : List Tri) : Prop := rs.length = ws.length ∧ ∀ (i : Nat) (r : Addr), rs[i]? = some r → H r = some (tupV (ws.getD i (0, 0, 0)))
theorem TupsAt.same {H H' : Hp} {rs : List Addr} {ws : List Tri} (h : TupsAt H rs ws) (s : Same H H') : TupsAt H' rs ws := ⟨h.1, fun i r e => s _ _ (h.2 i r e)⟩
def sp_in_threes (K : PySem.W.Frag) : Sp := fun vs H Q _ => ∃ (a : Addr) (ns : List Int), vs = [.ref a] ∧ SqL K H a (ns.map V.int) ∧ ns.length = 3 * (ns.length / 3) ∧ ns.length ≤ 10000 ∧
  ∀ (H' : Hp) (p : Addr) (rs : List Addr), Same H H' → H p = none → H' p = some (.lst (rs.map V.ref)) → TupsAt H' rs (thr ns) → Q (.ref p) H'
theorem sc_in_threes : FnScope ["numbers", "i"] ["numbers"] (defScope s_in_threes) := ⟨rfl, rfl, rfl, by decide +kernel, rfl, by decide +kernel, by decide +kernel⟩
theorem fits {i : Int} (h0 : -100000 ≤ i) (h1 : i ≤ 100000) : Builtin.Range.rangeFitsLong i = true := by
  unfold Builtin.Range.rangeFitsLong
  rw [Bool.and_eq_true, decide_eq_true_eq, decide_eq_true_eq]
  omega
theorem rg3 {n : Nat} (h3 : n = 3 * (n / 3)) (hn : n ≤ 10000) : RgC 0 (n : Int) 3 (n / 3) := by
  have e : Builtin.Range.rangeSize 0 (n : Int) 3 = ((n / 3 : Nat) : Int) := by
    unfold Builtin.Range.rangeSize
    split <;> split <;> omega
  refine ⟨by decide, by decide, ?_, e⟩
  unfold Builtin.Range.small
  rw [e, fits (by omega) (by omega), fits (by omega) (by omega), fits (by omega) (by omega), fits (by omega) (by omega), if_pos (by decide), fits (by omega) (by omega), Bool.or_true]
  rfl
theorem thr_getD (ns : List Int) {i : Nat} (h : i < ns.length / 3) : (thr ns).getD i (0, 0, 0) = triAt ns i := by
  unfold thr
  rw [List.getD_eq_getElem?_getD, List.getElem?_map, List.getElem?_range h]
  rfl
theorem at_int (ns : List Int) {j : Nat} (h : j < ns.length) : atI (ns.map V.int) (j : Int) = some (.int (ns.getD j 0)) := by
  refine atI_nat ?_
  rw [List.getElem?_map, List.getElem?_eq_getElem h, List.getD_eq_getElem?_getD, List.getElem?_eq_getElem h]
  rfl
theorem ok_in_threes {f : Addr} {fd : FuncData} {k : Nat} (T : Txt K mg) (D : Def K mg "in_threes" s_in_threes ["numbers"] f fd) : FnOk P w K mg base CX0 (k + 1) f fd ["numbers"] (sp_in_threes K) := by
  refine D.F.ok sc_in_threes (fun vs H Q E h => ?_) (fun cdv A outer s H vs Q E hr h => ?_)
  · obtain ⟨a, ns, rfl, _⟩ := h
    rfl
  · obtain ⟨a, ns, rfl, hS, h3, hlen, q⟩ := h
    refine ⟨_, pss_one (ps_ret (pe_lc (own := [("i", 1)]) (g := gName 1) (tt := tYes) rfl sc_in_threes.nd (pi_range3 rfl T.m_range (pa_cons pe_int (pa_cons (pe_callB call_len_seq (by rfl) T.m_len PySem.boot_len (pa_cons (pv 0) pa_nil)) (pa_cons pe_int pa_nil))))
          (blkOk_by (N := ["numbers", "i"]) (sc := defScope s_in_threes) (by decide +kernel))
          (fun _ _ _ _ _ => pg_name (i := 1) sc_in_threes.nd rfl (Or.inl rfl)) (fun _ _ _ _ _ => pts_nil)
          (fun _ _ _ _ _ => pe_tup (pa_cons (pe_ix (r := rIxL K) (by exact ix_list) (pv 0) (pv 1) (fun _ _ => rfl)) (pa_cons (pe_ix (r := rIxL K) (by exact ix_list) (pv 0) (pe_op op_add (pv 1) pe_int) (fun _ _ => rfl)) (pa_cons (pe_ix (r := rIxL K) (by exact ix_list) (pv 0) (pe_op op_add (pv 1) pe_int) (fun _ _ => rfl)) pa_nil)))))), ?_⟩
    refine ⟨_, rfl, a, _, rfl, .inl hS, 0, _, 3, ns.length / 3, rfl, (by rw [List.length_map]; exact rg3 h3 hlen), fun B hB => ?_⟩
    refine lc_it walk_rangeC (fun i H' => Same H H' ∧ ∃ rs : List Addr, rs.length = i ∧ H' B = some (.lst (rs.map V.ref)) ∧ ∀ (j : Nat) (r : Addr), rs[j]? = some r → H' r = some (tupV (triAt ns j)))
      ⟨new_same hB, [], rfl, upd_same, fun j r e => by simp at e⟩ (fun _ _ _ _ => trivial) ?_ ?_
    · rintro i y H1 H' hi ⟨sm, rs, hl, eB, hT⟩ ⟨rfl, rfl⟩
      have eI : (0 + ((i : Nat) : Int) * 3) = ((3 * i : Nat) : Int) := by omega
      have eI1 : ((3 * i : Nat) : Int) + 1 = ((3 * i + 1 : Nat) : Int) := by omega
      have eI2 : ((3 * i : Nat) : Int) + 2 = ((3 * i + 2 : Nat) : Int) := by omega
      have eV : (fun i : Nat => V.int (0 + ((i : Nat) : Int) * 3)) i = V.int ((3 * i : Nat) : Int) := congrArg V.int eI
      rw [eV]
      have hS' := sm.seq hS
      refine ⟨rfl, _, rfl, _, rfl, a, _, _, _, rfl, rfl, hS', at_int ns (by omega), ?_⟩
      refine ⟨_, rfl, _, rfl, _, _, rfl, rfl, a, _, _, _, rfl, rfl, hS', (by rw [eI1]; exact at_int ns (by omega)), ?_⟩
      refine ⟨_, rfl, _, rfl, _, _, rfl, rfl, a, _, _, _, rfl, rfl, hS', (by rw [eI2]; exact at_int ns (by omega)), ?_⟩
      refine ⟨(by show 3 ≤ sizeLine; decide), fun t ht => ?_⟩
      have tB : B ≠ t := ne_of_none eB ht
      refine ⟨_, (upd_ne tB).trans eB, ?_, ?_, rs ++ [t], ?_, ?_, ?_⟩
      · rw [List.length_map, hl]
        exact Nat.lt_of_lt_of_le (show i < 10000 by omega) (by decide)
      · exact grow_same hB (sm.trans (new_same ht))
      · rw [List.length_append, hl]
        rfl
      · rw [upd_same, List.map_append]
        rfl
      · intro j r e
        by_cases hj : j < i
        · rw [List.getElem?_append_left (by omega)] at e
          have h1 := hT j r e
          have rB : r ≠ B := fun z => by
            rw [z, eB] at h1
            cases h1
          rw [upd_ne rB, upd_ne (ne_of_none h1 ht)]
          exact h1
        · rw [List.getElem?_append_right (by omega)] at e
          have hj' : j = i := by
            by_cases z : j - rs.length = 0
            · omega
            · rw [List.getElem?_eq_none (by simp; omega)] at e
              cases e
          subst hj'
          rw [hl, Nat.sub_self] at e
          have er : t = r := Option.some.inj e
          subst er
          rw [upd_ne tB.symm, upd_same]
          rfl
    · rintro H' ⟨sm, rs, hl, eB, hT⟩
      refine q H' B rs sm hB eB ⟨by rw [hl, thr_len], fun i r e => ?_⟩
      have hi : i < rs.length := (List.getElem?_eq_some_iff.mp e).1
      rw [thr_getD ns (by omega)]
      exact hT i r e
/-! ### jobs as tuples -/
open Sh73 (Job)
def JobsAt (H : Hp) (rs : List Addr) (l : List Job) : Prop := rs.length = l.length ∧ ∀ (i : Nat) (r : Addr), rs[i]? = some r → H r = some (tupV (triOf (l.getD i J0)))
theorem JobsAt.same {H H' : Hp} {rs : List Addr} {l : List Job} (h : JobsAt H rs l) (s : Same H H') : JobsAt H' rs l := ⟨h.1, fun i r e => s _ _ (h.2 i r e)⟩
theorem num_is {rows : List Int} (h : ∀ x ∈ rows, 0 ≤ x) {j : Nat} (hj : j < rows.length) : rows.getD j 0 = ((Sh73.num (Sh73Neutral.nats rows) j : Nat) : Int) := by
  unfold Sh73.num Sh73Neutral.nats
  rw [List.getD_eq_getElem?_getD, List.getD_eq_getElem?_getD, List.getElem?_map, List.getElem?_eq_getElem hj]
  have := h _ (List.getElem_mem hj)
  show rows[j] = ((rows[j].toNat : Nat) : Int)
  omega
theorem thr_jobs {rows : List Int} (h : ∀ x ∈ rows, 0 ≤ x) {i : Nat} (hi : i < rows.length / 3) : (thr rows).getD i (0, 0, 0) = triOf ((jobsOf rows).getD i J0) := by
  rw [thr_getD rows hi]
  unfold jobsOf Sh73.jobs
  have e1 : (Sh73Neutral.nats rows).length = rows.length := List.length_map ..
  rw [e1, List.getD_eq_getElem?_getD (l := List.map _ _), List.getElem?_map, List.getElem?_range hi]
  unfold triAt triOf
  rw [num_is h (show 3 * i < rows.length by omega), num_is h (show 3 * i + 1 < rows.length by omega), num_is h (show 3 * i + 2 < rows.length by omega)]
  rfl
theorem JobsAt.of {H : Hp} {rs : List Addr} {rows : List Int} (h : TupsAt H rs (thr rows)) (h0 : ∀ x ∈ rows, 0 ≤ x) : JobsAt H rs (jobsOf rows) := by
  have hl : rs.length = rows.length / 3 := by rw [h.1, thr_len]
  refine ⟨by rw [hl, jobsOf_len], fun i r e => ?_⟩
  have hi : i < rs.length := (List.getElem?_eq_some_iff.mp e).1
  rw [← thr_jobs h0 (by omega)]
  exact h.2 i r e
theorem ref_atJ {rs : List Addr} {i : Nat} {y : V} (hi : (rs.map V.ref)[i]? = some y) : ∃ r, rs[i]? = some r ∧ y = V.ref r := by
  rw [List.getElem?_map, Option.map_eq_some_iff] at hi
  obtain ⟨r, h1, h2⟩ := hi
  exact ⟨r, h1, h2.symm⟩
theorem drop_getD {l : List Job} {i : Nat} (h : i < l.length) : l.drop i = l.getD i J0 :: l.drop (i + 1) := by
  rw [List.drop_eq_getElem_cons h, List.getD_eq_getElem?_getD, List.getElem?_eq_getElem h]
  rfl
theorem job_at {l : List Job} {i : Nat} (h : i < l.length) : l[i]? = some (l.getD i J0) := by
  rw [List.getD_eq_getElem?_getD, List.getElem?_eq_getElem h]
  rfl
theorem ordF_cons (t : Nat) (j : Job) (r : List Job) : ordF t (j :: r) = (decide (j.from_ < j.to) && decide (t ≤ j.to) && ordF j.to r) := rfl
/-! ### jobs_in_order -/
def sp_jobs_in_order (K : PySem.W.Frag) : Sp := fun vs H Q _ => ∃ (p : Addr) (rs : List Addr) (l : List Job), vs = [.ref p] ∧ SqL K H p (rs.map V.ref) ∧ JobsAt H rs l ∧ Q (.bl (ordF 0 l)) H
theorem sc_jobs_in_order : FnScope ["jobs", "latest", "begin", "end", "worth"] ["jobs"] (defScope s_jobs_in_order) := ⟨rfl, rfl, rfl, by decide +kernel, rfl, by decide +kernel, by decide +kernel⟩
theorem ok_jobs_in_order {f : Addr} {fd : FuncData} {k : Nat} (D : Def K mg "jobs_in_order" s_jobs_in_order ["jobs"] f fd) : FnOk P w K mg base CX0 (k + 1) f fd ["jobs"] (sp_jobs_in_order K) := by
  refine D.F.ok sc_jobs_in_order (fun vs H Q E h => ?_) (fun cdv A outer s H vs Q E hr h => ?_)
  · obtain ⟨p, rs, l, rfl, _⟩ := h
    rfl
  · obtain ⟨p, rs, l, rfl, hS, hJ, q⟩ := h
    have nd := sc_jobs_in_order.nd
    refine ⟨_, pss_cons (ps_set (i := 1) nd rfl (.inl rfl) pe_int)
      (pss_cons (ps_for PassesOwn.never rfl (pi_list (pv 0)) (pg_tup rfl (pgs_cons (pg_name (i := 2) nd rfl (.inl rfl)) (pgs_cons (pg_name (i := 3) nd rfl (.inl rfl)) (pgs_cons (pg_name (i := 4) nd rfl (.inl rfl)) pgs_nil))))
        (pss_cons (ps_if (PW.pt (pw_or (pt_cmpR op_le (pv 3) (pv 2) (nomark _)) (pw_or1 (pt_cmpR op_lt (pv 3) (pv 1) (nomark _))))) (pss_one (ps_ret pe_bl)) pss_nil)
        (pss_one (ps_set (i := 1) nd rfl (.inl rfl) (pv 3)))))
      (pss_one (ps_ret pe_bl))), ?_⟩
    refine ⟨_, rfl, p, rfl, ⟨_, hS⟩, for_list (K := K) (a := p) (xs := rs.map V.ref) (fun i σ H' => (∃ (t : Nat) (v2 v3 v4 : Option V), σ = [some (.ref p), some (.int (t : Int)), v2, v3, v4] ∧ ordF 0 l = ordF t (l.drop i)) ∧ H' = H)
      ⟨⟨0, none, none, none, rfl, rfl⟩, rfl⟩ (fun i σ H' _ ⟨_, e⟩ => e ▸ hS) ?_ ?_⟩
    · rintro i y σ H' hi ⟨⟨t, v2, v3, v4, rfl, ho⟩, rfl⟩
      obtain ⟨r, hr1, rfl⟩ := ref_atJ hi
      have hil : i < l.length := by rw [← hJ.1]; exact (List.getElem?_eq_some_iff.mp hr1).1
      rw [drop_getD hil] at ho
      have hT := hJ.2 i r hr1
      generalize l.getD i J0 = j at *
      rw [ordF_cons] at ho
      refine ⟨r, [.int (j.from_ : Int), .int (j.to : Int), .int (j.worth : Int)], rfl, SqT.of hT, rfl, _, _, rfl, _, _, rfl, _, _, rfl, rfl, ?_⟩
      refine ⟨_, rfl, _, rfl, (j.to : Int), (j.from_ : Int), rfl, rfl, _, rfl, ?_⟩
      by_cases c : (j.to : Int) ≤ (j.from_ : Int)
      · refine ift (decide_eq_true c) ?_
        have e : decide (j.from_ < j.to) = false := decide_eq_false (by omega)
        rw [e] at ho
        rw [ho] at q
        exact q
      · refine iff_ (decide_eq_false c) ?_
        have e : decide (j.from_ < j.to) = true := decide_eq_true (by omega)
        refine ⟨_, rfl, _, rfl, (j.to : Int), (t : Int), rfl, rfl, _, rfl, ?_⟩
        by_cases d : (j.to : Int) < (t : Int)
        · refine ift (decide_eq_true d) ?_
          have e2 : decide (t ≤ j.to) = false := decide_eq_false (by omega)
          rw [e2, Bool.and_false] at ho
          rw [ho] at q
          exact q
        · refine iff_ (decide_eq_false d) ?_
          have e2 : decide (t ≤ j.to) = true := decide_eq_true (by omega)
          rw [e, e2] at ho
          exact ⟨_, rfl, ⟨j.to, _, _, _, rfl, ho⟩, rfl⟩
    · rintro σ H' ⟨⟨t, v2, v3, v4, rfl, ho⟩, rfl⟩
      rw [List.length_map, hJ.1, List.drop_length] at ho
      rw [ho] at q
      exact q
/-! ### ended_by -/
def sp_ended_by (K : PySem.W.Frag) : Sp := fun vs H Q _ => ∃ (p : Addr) (rs : List Addr) (l : List Job) (t : Nat), vs = [.ref p, .int (t : Int)] ∧ SqL K H p (rs.map V.ref) ∧ JobsAt H rs l ∧ l.length ≤ 100 ∧ ∀ H' : Hp, Same H H' → Q (.int ((cnt l t : Nat) : Int)) H'
theorem sc_ended_by : FnScope ["jobs", "moment", "begin", "end", "worth"] ["jobs", "moment"] (defScope s_ended_by) := ⟨rfl, rfl, rfl, by decide +kernel, rfl, by decide +kernel, by decide +kernel⟩
theorem ok_ended_by {f : Addr} {fd : FuncData} {k : Nat} (T : Txt K mg) (D : Def K mg "ended_by" s_ended_by ["jobs", "moment"] f fd) : FnOk P w K mg base CX0 (k + 1) f fd ["jobs", "moment"] (sp_ended_by K) := by
  refine D.F.ok sc_ended_by (fun vs H Q E h => ?_) (fun cdv A outer s H vs Q E hr h => ?_)
  · obtain ⟨p, rs, l, t, rfl, _⟩ := h
    rfl
  · obtain ⟨p, rs, l, t, rfl, hS, hJ, hlen, q⟩ := h
    have nd := sc_ended_by.nd
    refine ⟨_, pss_one (ps_ret (pe_callB call_len_seq (by rfl) T.m_len PySem.boot_len (pa_cons (pe_lc (own := [("begin", 2), ("end", 3), ("worth", 4)]) (g := gTup K 3 (gCons (gName 2) (gCons (gName 3) (gCons (gName 4) gNil)))) rfl nd (pi_list (pv 0))
          (blkOk_by (N := ["jobs", "moment", "begin", "end", "worth"]) (sc := defScope s_ended_by) (by decide +kernel))
          (fun _ _ _ _ _ => pg_tup rfl (pgs_cons (pg_name (i := 2) nd rfl (.inl rfl)) (pgs_cons (pg_name (i := 3) nd rfl (.inl rfl)) (pgs_cons (pg_name (i := 4) nd rfl (.inl rfl)) pgs_nil)))) (fun _ _ _ _ _ => pts_one (pt_cmpR op_le (pv 3) (pv 1) (nomark _)))
          (fun _ _ _ _ _ => pv 3)) pa_nil))), ?_⟩
    refine ⟨_, rfl, p, rfl, ⟨_, hS⟩, fun B hB => ?_⟩
    refine lc_list (K := K) (a := p) (xs := rs.map V.ref) (fun i H' => Same H H' ∧ H' B = some (.lst (((l.take i).filter fun j => decide (j.to ≤ t)).map fun j => V.int (j.to : Int))))
      ⟨new_same hB, upd_same⟩ (fun i H' _ ⟨e, _⟩ => e.seq hS) ?_ ?_
    · rintro i y H' hi ⟨sm, eB⟩
      obtain ⟨r, hr1, rfl⟩ := ref_atJ hi
      have hil : i < l.length := by rw [← hJ.1]; exact (List.getElem?_eq_some_iff.mp hr1).1
      have hT := sm _ _ (hJ.2 i r hr1)
      have et := take_snoc (job_at hil)
      generalize l.getD i J0 = j at *
      refine ⟨r, [.int (j.from_ : Int), .int (j.to : Int), .int (j.worth : Int)], rfl, SqT.of hT, rfl, _, _, rfl, _, _, rfl, _, _, rfl, rfl, rfl, ?_⟩
      refine ⟨_, rfl, _, rfl, (j.to : Int), (t : Int), rfl, rfl, _, rfl, ?_⟩
      by_cases c : (j.to : Int) ≤ (t : Int)
      · refine ift (decide_eq_true c) ⟨_, rfl, _, eB, ?_, grow_same hB sm, ?_⟩
        · have := List.length_filter_le (fun j : Job => decide (j.to ≤ t)) (l.take i)
          rw [List.length_take] at this
          rw [List.length_map]
          exact Nat.lt_of_le_of_lt (show _ ≤ 100 by omega) (by decide)
        · rw [upd_same, et, List.filter_append, List.map_append]
          have e : decide (j.to ≤ t) = true := decide_eq_true (by omega)
          rw [List.filter_cons, if_pos e]
          rfl
      · refine iff_ (decide_eq_false c) ⟨sm, ?_⟩
        rw [eB, et, List.filter_append]
        have e : ¬ decide (j.to ≤ t) = true := by rw [decide_eq_true_eq]; omega
        rw [List.filter_cons, if_neg e, List.filter_nil, List.append_nil]
    · rintro H' ⟨sm, eB⟩
      rw [List.length_map, hJ.1, List.take_length] at eB
      refine ⟨B, _, rfl, .inl (SqL.of eB), ?_⟩
      rw [List.length_map]
      exact q H' sm
/-! ### best_worths -/
def sp_best_worths (K : PySem.W.Frag) : Sp := fun vs H Q _ => ∃ (p : Addr) (rs : List Addr) (l : List Job), vs = [.ref p] ∧ SqL K H p (rs.map V.ref) ∧ JobsAt H rs l ∧ l.length ≤ 100 ∧ ordF 0 l = true ∧
  ∀ (H' : Hp) (c : Addr), Same H H' → H c = none → H' c = some (.lst ((wl l l.length).map V.int)) → Q (.ref c) H'
theorem sc_best_worths : FnScope ["jobs", "worths", "begin", "end", "worth"] ["jobs"] (defScope s_best_worths) := ⟨rfl, rfl, rfl, by decide +kernel, rfl, by decide +kernel, by decide +kernel⟩
theorem old_none {H H' : Hp} {p : Addr} (s : Same H H') (h : H' p = none) : H p = none := by
  cases e : H p with
  | none => rfl
  | some o => rw [s _ _ e] at h; cases h
theorem atI_end {α : Type} {xs : List α} {v : α} (h : xs[xs.length - 1]? = some v) (h0 : 0 < xs.length) : atI xs (-1) = some v := by
  unfold atI ixN
  rw [if_neg (by decide), if_pos (by omega)]
  show xs[((-1 : Int) + (xs.length : Int)).toNat]? = some v
  have e : ((-1 : Int) + (xs.length : Int)).toNat = xs.length - 1 := by omega
  rw [e, h]
theorem int_map_at {xs : List Int} {j : Nat} {v : Int} (h : xs[j]? = some v) : (xs.map V.int)[j]? = some (.int v) := by
  rw [List.getElem?_map, h]
  rfl
theorem max_is (a b : Nat) : (if (b : Int) > (a : Int) then (b : Int) else (a : Int)) = ((max a b : Nat) : Int) := by
  split <;> omega
theorem ok_best_worths {f : Addr} {fd : FuncData} {k : Nat} (T : Txt K mg) (D : Def K mg "best_worths" s_best_worths ["jobs"] f fd) : FnOk P w K mg base CX0 (k + 2) f fd ["jobs"] (sp_best_worths K) := by
  obtain ⟨f1, fd1, D1⟩ := T.d_ended_by
  have G1 : FnOk P w K mg base CX0 (k + 1) f1 fd1 ["jobs", "moment"] (sp_ended_by K) := ok_ended_by T D1
  refine D.F.ok sc_best_worths (fun vs H Q E h => ?_) (fun cdv A outer s H vs Q E hr h => ?_)
  · obtain ⟨p, rs, l, rfl, _⟩ := h
    rfl
  · obtain ⟨p, rs, l, rfl, hS, hJ, hlen, ho, q⟩ := h
    have nd := sc_best_worths.nd
    refine ⟨_, pss_cons (ps_set (i := 1) nd rfl (.inl rfl) (pe_lst (pa_cons pe_int pa_nil)))
      (pss_cons (ps_for PassesOwn.never rfl (pi_list (pv 0)) (pg_tup rfl (pgs_cons (pg_name (i := 2) nd rfl (.inl rfl)) (pgs_cons (pg_name (i := 3) nd rfl (.inl rfl)) (pgs_cons (pg_name (i := 4) nd rfl (.inl rfl)) pgs_nil))))
        (pss_one (ps_expr (pe_bm PySem.F.plainAttrs_list PySem.F.slot_list_append PySem.F.type_list_append mt_append (pv 1) (pa_cons
          (pe_callB (call_max2 rfl) (by rfl) T.m_max (by decide +kernel) (pa_cons (pe_ix ix_list (pv 1) (pe_un un_neg pe_int) (fun _ _ => rfl)) (pa_cons
            (pe_op op_add (pv 4) (pe_ix ix_list (pv 1) (pe_call G1 hr rfl D1.g D1.F.kp D1.b .nil pass0 (pa_cons (pv 0) (pa_cons (pv 2) pa_nil))) (fun _ _ => rfl))) pa_nil))) pa_nil)))))
      (pss_one (ps_ret (pv 1)))), ?_⟩
    refine ⟨(by show 1 ≤ sizeLine; decide), fun c hc => ?_⟩
    have s1 : Same H (upd H c (.lst [.int 0])) := new_same hc
    refine ⟨_, rfl, p, rfl, ⟨_, s1.seq hS⟩, for_list (K := K) (a := p) (xs := rs.map V.ref) (fun i σ H' => (∃ (v2 v3 v4 : Option V), σ = [some (.ref p), some (.ref c), v2, v3, v4]) ∧ Same H H' ∧ H' c = some (.lst ((wl l i).map V.int)))
      ⟨⟨none, none, none, rfl⟩, s1, upd_same⟩ (fun i σ H' _ ⟨_, e, _⟩ => e.seq hS) ?_ ?_⟩
    · rintro i y σ H' hi ⟨⟨v2, v3, v4, rfl⟩, sm, ec⟩
      obtain ⟨r, hr1, rfl⟩ := ref_atJ hi
      have hil : i < l.length := by rw [← hJ.1]; exact (List.getElem?_eq_some_iff.mp hr1).1
      have hT := sm _ _ (hJ.2 i r hr1)
      obtain ⟨bs, bc⟩ := best_step ho (topE_ge l) hil
      generalize l.getD i J0 = j at *
      have hl1 : ((wl l i).map V.int).length = i + 1 := by rw [List.length_map, wl_len]
      have a1 : atI ((wl l i).map V.int) (-1) = some (.int ((Sh73.best l i (topE l) : Nat) : Int)) := atI_end (by rw [hl1]; exact int_map_at (wl_at l (Nat.le_refl i))) (by rw [hl1]; omega)
      have a2 : atI ((wl l i).map V.int) ((cnt l j.from_ : Nat) : Int) = some (.int ((Sh73.best l (cnt l j.from_) (topE l) : Nat) : Int)) := atI_nat (int_map_at (wl_at l bc))
      refine ⟨r, [.int (j.from_ : Int), .int (j.to : Int), .int (j.worth : Int)], rfl, SqT.of hT, rfl, _, _, rfl, _, _, rfl, _, _, rfl, rfl, ?_⟩
      refine ⟨_, rfl, .inl ⟨rfl, _, SqL.of ec⟩, _, rfl, 1, rfl, c, _, _, _, rfl, rfl, SqL.of ec, a1, ?_⟩
      refine ⟨_, rfl, _, rfl, _, rfl, _, rfl, p, rs, l, j.from_, rfl, sm.seq hS, hJ.same sm, hlen, fun H1 t1 => ?_⟩
      refine ⟨c, _, _, _, rfl, rfl, SqL.of (t1 _ _ ec), a2, (j.worth : Int), _, rfl, rfl, _, _, rfl, ?_⟩
      refine ⟨c, _, _, rfl, rfl, t1 _ _ ec, ?_, ⟨_, _, _, rfl⟩, grow_same hc (sm.trans t1), ?_⟩
      · rw [hl1]
        exact Nat.lt_of_le_of_lt (show _ ≤ 100 by omega) (by decide)
      · have e : (j.worth : Int) + ((Sh73.best l (cnt l j.from_) (topE l) : Nat) : Int) = ((j.worth + Sh73.best l (cnt l j.from_) (topE l) : Nat) : Int) := by omega
        rw [upd_same, wl_succ, bs, ← max_is, ← e, List.map_append]
        rfl
    · rintro σ H' ⟨⟨v2, v3, v4, rfl⟩, sm, ec⟩
      rw [List.length_map, hJ.1] at ec
      exact ⟨_, rfl, q H' c sm hc ec⟩
/-! ### chosen_jobs -/
def sp_chosen_jobs (K : PySem.W.Frag) : Sp := fun vs H Q _ => ∃ (p c : Addr) (rs : List Addr) (l : List Job), vs = [.ref p, .ref c] ∧ SqL K H p (rs.map V.ref) ∧ JobsAt H rs l ∧ SqL K H c ((wl l l.length).map V.int) ∧ l.length ≤ 100 ∧ ordF 0 l = true ∧
  ∀ (H' : Hp) (d : Addr), Same H H' → H d = none → H' d = some (.lst ((natL (Sh73.chosen l l.length (topE l))).map V.int)) → Q (.ref d) H'
theorem sc_chosen_jobs : FnScope ["jobs", "worths", "chosen", "moment", "number"] ["jobs", "worths"] (defScope s_chosen_jobs) := ⟨rfl, rfl, rfl, by decide +kernel, rfl, by decide +kernel, by decide +kernel⟩
theorem rgNeg {n : Nat} (hn : n ≤ 10000) : RgC ((n : Int) - 1) (-1) (-1) n := by
  have e : Builtin.Range.rangeSize ((n : Int) - 1) (-1) (-1) = ((n : Nat) : Int) := by
    unfold Builtin.Range.rangeSize
    rw [if_neg (by decide)]
    split
    · rw [show (-(-1 : Int)) = 1 from rfl, Int.ediv_one]
      omega
    · omega
  refine ⟨by decide, by decide, ?_, e⟩
  unfold Builtin.Range.small
  rw [e, fits (by omega) (by omega), fits (by omega) (by omega), fits (by omega) (by omega), fits (by omega) (by omega), if_neg (by decide), fits (by omega) (by omega), Bool.or_true]
  rfl
theorem ite_both {c : Bool} {ta tb : TE} {σ : L2.St} {H1 : Hp} {Q' : V → Hp → Prop} (v : V) (h1 : c = true → Q' v H1 → ta σ H1 Q') (h2 : c = false → Q' v H1 → tb σ H1 Q') (q : Q' v H1) : if c = true then ta σ H1 Q' else tb σ H1 Q' := by
  cases c with
  | true => exact h1 rfl q
  | false => exact h2 rfl q
theorem ok_chosen_jobs {f : Addr} {fd : FuncData} {k : Nat} (T : Txt K mg) (D : Def K mg "chosen_jobs" s_chosen_jobs ["jobs", "worths"] f fd) : FnOk P w K mg base CX0 (k + 1) f fd ["jobs", "worths"] (sp_chosen_jobs K) := by
  refine D.F.ok sc_chosen_jobs (fun vs H Q E h => ?_) (fun cdv A outer s H vs Q E hr h => ?_)
  · obtain ⟨p, c, rs, l, rfl, _⟩ := h
    rfl
  · obtain ⟨p, c, rs, l, rfl, hS, hJ, hW, hlen, ho, q⟩ := h
    have nd := sc_chosen_jobs.nd
    refine ⟨_, pss_cons (ps_set (i := 2) nd rfl (.inl rfl) (pe_lst pa_nil))
      (pss_cons (ps_set (i := 3) nd rfl (.inl rfl) (pe_ifExp (pt_truth (pv 0) (by intro _; rfl)) (pe_ix ix_tup (pe_ix ix_list (pv 0) (pe_un un_neg pe_int) (fun _ _ => rfl)) pe_int (fun _ _ => rfl)) pe_int))
      (pss_cons (ps_for PassesOwn.never rfl (pi_range3 rfl T.m_range (pa_cons (pe_op op_sub (pe_callB call_len_seq (by rfl) T.m_len PySem.boot_len (pa_cons (pv 0) pa_nil)) pe_int) (pa_cons (pe_un un_neg pe_int) (pa_cons (pe_un un_neg pe_int) pa_nil)))) (pg_name (i := 4) nd rfl (.inl rfl))
        (pss_one (ps_if (PW.pt (pw_and (pt_cmpR op_le (pe_ix ix_tup (pe_ix ix_list (pv 0) (pv 4) (fun _ _ => rfl)) pe_int (fun _ _ => rfl)) (pv 3) (nomark _))
            (pw_and1 (pt_cmpR op_gt (pe_ix ix_list (pv 1) (pe_op op_add (pv 4) pe_int) (fun _ _ => rfl)) (pe_ix ix_list (pv 1) (pv 4) (fun _ _ => rfl)) (nomark _)))))
          (pss_cons (ps_expr (pe_bm PySem.F.plainAttrs_list PySem.F.slot_list_append PySem.F.type_list_append mt_append (pv 2) (pa_cons (pv 4) pa_nil)))
            (pss_one (ps_set (i := 3) nd rfl (.inl rfl) (pe_ix ix_tup (pe_ix ix_list (pv 0) (pv 4) (fun _ _ => rfl)) pe_int (fun _ _ => rfl))))) pss_nil)))
      (pss_cons (ps_expr (pe_bm0 PySem.F.plainAttrs_list PySem.F.slot_list_reverse PySem.F.type_list_reverse mt_reverse (pv 2)))
      (pss_one (ps_ret (pv 2)))))), ?_⟩
    refine ⟨(by show 0 ≤ sizeLine; decide), fun d hd => ?_⟩
    have s1 : Same H (upd H d (.lst [])) := new_same hd
    have lr : (rs.map V.ref).length = l.length := by rw [List.length_map, hJ.1]
    have hW1 := s1.seq hW
    have jobAt : ∀ i, i < l.length → ∃ r, (rs.map V.ref)[i]? = some (.ref r) ∧ H r = some (tupV (triOf (l.getD i J0))) := fun i hi => by
      have hi' : i < rs.length := by rw [hJ.1]; exact hi
      exact ⟨rs[i], by rw [List.getElem?_map, List.getElem?_eq_getElem hi']; rfl, hJ.2 i _ (List.getElem?_eq_getElem hi')⟩
    -- moment
    refine ⟨_, rfl, _, .inl ⟨_, s1.seq hS, rfl⟩, ite_both (.int ((topE l : Nat) : Int)) (fun hc hq => ?_) (fun hc hq => ?_) ?_⟩
    · have hl0 : 0 < l.length := by
        cases l with
        | nil =>
          have : rs = [] := List.length_eq_zero_iff.mp hJ.1
          subst this
          cases hc
        | cons j r => exact Nat.succ_pos _
      obtain ⟨r, h1, h2⟩ := jobAt (l.length - 1) (by omega)
      refine ⟨_, rfl, 1, rfl, p, _, _, _, rfl, rfl, s1.seq hS, atI_end (by rw [lr]; exact h1) (by rw [lr]; exact hl0), r, _, 1, _, rfl, rfl, SqT.of (s1 _ _ h2), rfl, ?_⟩
      rw [topE_last ho hl0] at hq
      exact hq
    · have e : topE l = 0 := by
        cases l with
        | nil => rfl
        | cons j r =>
          have : rs ≠ [] := fun z => by rw [z] at hJ; cases hJ.1
          cases rs with
          | nil => exact absurd rfl this
          | cons _ _ => cases hc
      rw [e] at hq
      exact hq
    -- the walk from the last on
    refine ⟨_, rfl, p, _, rfl, .inl (s1.seq hS), _, _, rfl, rfl, 1, rfl, 1, rfl, _, _, _, l.length, rfl, (by rw [lr]; exact rgNeg (by omega)), ?_⟩
    refine for_it walk_rangeC (fun i σ H' => ∃ (t : Nat) (acc : List Nat) (v4 : Option V), σ = [some (.ref p), some (.ref c), some (.ref d), some (.int (t : Int)), v4] ∧ Same H H' ∧ H' d = some (.lst ((natL acc).map V.int)) ∧ acc.length ≤ i ∧ Sh73.chosen l (l.length - i) t ++ acc.reverse = Sh73.chosen l l.length (topE l))
      ⟨topE l, [], none, rfl, s1, upd_same, Nat.le_refl _, by rw [List.reverse_nil, List.append_nil, Nat.sub_zero]⟩ (fun _ _ _ _ _ => trivial) ?_ ?_
    · rintro i y σ H1 H' hi ⟨t, acc, v4, rfl, sm, ed, hal, hch⟩ ⟨rfl, rfl⟩
      have eV : (fun i : Nat => V.int (((rs.map V.ref).length : Int) - 1 + ((i : Nat) : Int) * -1)) i = V.int ((l.length - (i + 1) : Nat) : Int) := congrArg V.int (by rw [lr]; omega)
      rw [eV]
      have hk : l.length - (i + 1) < l.length := by omega
      have hk2 : l.length - i = (l.length - (i + 1)) + 1 := by omega
      rw [hk2, chosen_step ho (topE_ge l) hk] at hch
      have w1 : atI ((wl l l.length).map V.int) (((l.length - (i + 1) : Nat) : Int) + 1) = some (.int ((Sh73.best l (l.length - (i + 1) + 1) (topE l) : Nat) : Int)) := by
        have e : ((l.length - (i + 1) : Nat) : Int) + 1 = ((l.length - (i + 1) + 1 : Nat) : Int) := by omega
        rw [e]
        exact atI_nat (int_map_at (wl_at l (by omega)))
      have w0 : atI ((wl l l.length).map V.int) ((l.length - (i + 1) : Nat) : Int) = some (.int ((Sh73.best l (l.length - (i + 1)) (topE l) : Nat) : Int)) := atI_nat (int_map_at (wl_at l (by omega)))
      obtain ⟨r, h1, h2⟩ := jobAt (l.length - (i + 1)) hk
      generalize hn : l.length - (i + 1) = n at *
      generalize l.getD n J0 = j at *
      have hT : SqT K H' r [.int (j.from_ : Int), .int (j.to : Int), .int (j.worth : Int)] := SqT.of (sm _ _ h2)
      refine ⟨_, rfl, _, rfl, p, _, _, _, rfl, rfl, sm.seq hS, atI_nat h1, r, _, 1, _, rfl, rfl, hT, rfl, _, rfl, (j.to : Int), (t : Int), rfl, rfl, _, rfl, ?_⟩
      by_cases c1 : (j.to : Int) ≤ (t : Int)
      · refine ift (decide_eq_true c1) ?_
        refine ⟨_, rfl, _, rfl, (n : Int), 1, rfl, rfl, c, _, _, _, rfl, rfl, sm.seq hW, w1, _, rfl, _, rfl, c, _, _, _, rfl, rfl, sm.seq hW, w0, _, _, rfl, rfl, _, rfl, ?_⟩
        by_cases c2 : ((Sh73.best l n (topE l) : Nat) : Int) < ((Sh73.best l (n + 1) (topE l) : Nat) : Int)
        · refine ift (decide_eq_true c2) ?_
          rw [if_pos ⟨by omega, by omega⟩] at hch
          refine ⟨_, rfl, .inl ⟨rfl, _, SqL.of ed⟩, _, rfl, d, _, _, rfl, rfl, ed, ?_, ?_⟩
          · unfold natL
            rw [List.length_map, List.length_map]
            exact Nat.lt_of_le_of_lt (show _ ≤ 100 by omega) (by decide)
          · have s2 : Same H (upd H' d (.lst ((natL acc).map V.int ++ [.int (n : Int)]))) := grow_same hd sm
            refine ⟨_, rfl, _, rfl, p, _, _, _, rfl, rfl, s2.seq hS, atI_nat h1, r, _, 0, _, rfl, rfl, SqT.of (s2 _ _ h2), rfl, ?_⟩
            refine ⟨j.from_, acc ++ [n], _, rfl, s2, ?_, ?_, ?_⟩
            · rw [upd_same]
              unfold natL
              rw [List.map_append, List.map_append]
              rfl
            · rw [List.length_append]
              show acc.length + 1 ≤ i + 1
              omega
            · rw [List.reverse_append, ← hch, List.append_assoc]
              rfl
        · refine iff_ (decide_eq_false c2) ?_
          rw [if_neg (fun z => c2 (by have := z.2; omega))] at hch
          exact ⟨t, acc, _, rfl, sm, ed, by omega, hch⟩
      · refine iff_ (decide_eq_false c1) ?_
        rw [if_neg (fun z => c1 (by have := z.1; omega))] at hch
        exact ⟨t, acc, _, rfl, sm, ed, by omega, hch⟩
    · rintro σ H' ⟨t, acc, v4, rfl, sm, ed, hal, hch⟩
      have hc0 : Sh73.chosen l l.length (topE l) = acc.reverse := by
        rw [← hch, Nat.sub_self]
        rfl
      refine ⟨_, rfl, .inl ⟨rfl, _, SqL.of ed⟩, d, _, rfl, rfl, ed, ?_⟩
      refine ⟨_, rfl, q _ d (grow_same hd sm) hd ?_⟩
      rw [upd_same, hc0]
      unfold natL
      rw [← List.map_reverse, ← List.map_reverse]
/-! ### two_lists -/
def sp_two_lists : Sp := fun vs H Q _ => ∃ (a : Addr) (ns : List Int) (t : Int), vs = [.ref a, .int t] ∧ H a = some (.lst (ns.map V.int)) ∧ ns.length ≤ 100 ∧
  ∀ (H' : Hp) (p : Addr), Same H H' → H p = none → H' p = some (.lst (([((ns.length : Nat) : Int), ((ns.length : Nat) : Int)] ++ ns ++ [1, t]).map V.int)) → Q (.ref p) H'
theorem sc_two_lists : FnScope ["numbers", "together"] ["numbers", "together"] (defScope s_two_lists) := ⟨rfl, rfl, rfl, by decide +kernel, rfl, by decide +kernel, by decide +kernel⟩
theorem ok_two_lists {f : Addr} {fd : FuncData} {k : Nat} (T : Txt K mg) (D : Def K mg "two_lists" s_two_lists ["numbers", "together"] f fd) : FnOk P w K mg base CX0 (k + 1) f fd ["numbers", "together"] sp_two_lists := by
  refine D.F.ok sc_two_lists (fun vs H Q E h => ?_) (fun cdv A outer s H vs Q E hr h => ?_)
  · obtain ⟨a, ns, t, rfl, _⟩ := h
    rfl
  · obtain ⟨a, ns, t, rfl, hA, hlen, q⟩ := h
    refine ⟨_, pss_one (ps_ret (pe_op op_cat (pe_op op_cat (pe_lst (pa_cons (pe_callB call_len_seq (by rfl) T.m_len PySem.boot_len (pa_cons (pv 0) pa_nil)) (pa_cons (pe_callB call_len_seq (by rfl) T.m_len PySem.boot_len (pa_cons (pv 0) pa_nil)) pa_nil))) (pv 0))
      (pe_lst (pa_cons pe_int (pa_cons (pv 1) pa_nil))))), ?_⟩
    refine ⟨_, rfl, a, _, rfl, .inl (SqL.of hA), _, rfl, a, _, rfl, .inl (SqL.of hA), (by show 2 ≤ sizeLine; decide), fun b hb => ?_⟩
    have ab : a ≠ b := ne_of_none hA hb
    refine ⟨_, rfl, b, a, _, _, rfl, rfl, upd_same, (upd_ne ab).trans hA, ?_, fun c hc => ?_⟩
    · rw [List.length_map]
      exact Nat.le_trans (show 2 + ns.length ≤ 200 by omega) (by decide)
    refine ⟨_, rfl, (by show 2 ≤ sizeLine; decide), fun d hd => ?_⟩
    have s3 := ((new_same (o := .lst [V.int (((ns.map V.int).length : Nat) : Int), V.int (((ns.map V.int).length : Nat) : Int)]) hb).trans (new_same (o := .lst ([V.int (((ns.map V.int).length : Nat) : Int), V.int (((ns.map V.int).length : Nat) : Int)] ++ ns.map V.int)) hc)).trans (new_same (o := .lst [V.int 1, V.int t]) hd)
    refine ⟨c, d, _, _, rfl, rfl, (upd_ne (ne_of_none upd_same hd)).trans upd_same, upd_same, ?_, fun p hp => ?_⟩
    · rw [List.length_append, List.length_map]
      exact Nat.le_trans (show 2 + ns.length + 2 ≤ 200 by omega) (by decide)
    · have hp' : H p = none := by
        cases e : H p with
        | none => rfl
        | some o => rw [s3 _ _ e] at hp; cases hp
      refine q _ p (s3.trans (new_same hp)) hp' ?_
      rw [upd_same, List.length_map, List.map_append, List.map_append]
      rfl
/-! ### np_best -/
def sp_np_best (K : PySem.W.Frag) : Sp := fun vs H Q _ => ∃ (a : Addr) (ns : List Int), vs = [.ref a] ∧ SqL K H a (ns.map V.int) ∧ ns.length ≤ 54 ∧ (∀ x ∈ ns, 0 ≤ x ∧ x ≤ 4294967295) ∧ ns.length = 3 * (ns.length / 3) ∧
  ∀ (H' : Hp) (p : Addr), H' p = some (.lst ((PySh73.np_best ns).map V.int)) → Q (.ref p) H'
theorem sc_np_best : FnScope ["rows", "jobs", "worths"] ["rows"] (defScope s_np_best) := ⟨rfl, rfl, rfl, by decide +kernel, rfl, by decide +kernel, by decide +kernel⟩
theorem ok_np_best {f : Addr} {fd : FuncData} (T : Txt K mg) (D : Def K mg "np_best" s_np_best ["rows"] f fd) : FnOk P w K mg base CX0 3 f fd ["rows"] (sp_np_best K) := by
  obtain ⟨f1, fd1, D1⟩ := T.d_words_in_range
  obtain ⟨f2, fd2, D2⟩ := T.d_in_threes
  obtain ⟨f3, fd3, D3⟩ := T.d_jobs_in_order
  obtain ⟨f4, fd4, D4⟩ := T.d_best_worths
  obtain ⟨f5, fd5, D5⟩ := T.d_chosen_jobs
  obtain ⟨f6, fd6, D6⟩ := T.d_two_lists
  have G1 : FnOk P w K mg base CX0 2 f1 fd1 ["words", "most"] (sp_words_in_range K) := ok_words_in_range T D1
  have G2 : FnOk P w K mg base CX0 2 f2 fd2 ["numbers"] (sp_in_threes K) := ok_in_threes T D2
  have G3 : FnOk P w K mg base CX0 2 f3 fd3 ["jobs"] (sp_jobs_in_order K) := ok_jobs_in_order D3
  have G4 : FnOk P w K mg base CX0 2 f4 fd4 ["jobs"] (sp_best_worths K) := ok_best_worths T D4
  have G5 : FnOk P w K mg base CX0 2 f5 fd5 ["jobs", "worths"] (sp_chosen_jobs K) := ok_chosen_jobs T D5
  have G6 : FnOk P w K mg base CX0 2 f6 fd6 ["numbers", "together"] sp_two_lists := ok_two_lists T D6
  refine D.F.ok sc_np_best (fun vs H Q E h => ?_) (fun cdv A outer s H vs Q E hr h => ?_)
  · obtain ⟨a, ns, rfl, _⟩ := h
    rfl
  · obtain ⟨a, ns, rfl, hS, hlen, hb, h3, q⟩ := h
    have nd := sc_np_best.nd
    refine ⟨_, pss_cons (ps_if (pt_not (pt_val (pe_call G1 hr rfl D1.g D1.F.kp D1.b .nil pass0 (pa_cons (pv 0) (pa_cons (pe_op op_mul pe_int (pe_gi rfl T.g_MOST_JOBS)) pa_nil))))) (pss_one (ps_ret (pe_lst (pa_cons (pe_gi rfl T.g_OUT_OF_RANGE) pa_nil)))) pss_nil)
      (pss_cons (ps_set (i := 1) nd rfl (.inl rfl) (pe_call G2 hr rfl D2.g D2.F.kp D2.b .nil pass0 (pa_cons (pv 0) pa_nil)))
      (pss_cons (ps_if (pt_not (pt_val (pe_call G3 hr rfl D3.g D3.F.kp D3.b .nil pass0 (pa_cons (pv 1) pa_nil)))) (pss_one (ps_ret (pe_lst (pa_cons (pe_gi rfl T.g_JOBS_OUT_OF_ORDER) pa_nil)))) pss_nil)
      (pss_cons (ps_set (i := 2) nd rfl (.inl rfl) (pe_call G4 hr rfl D4.g D4.F.kp D4.b .nil pass0 (pa_cons (pv 1) pa_nil)))
      (pss_one (ps_ret (pe_call G6 hr rfl D6.g D6.F.kp D6.b .nil pass0 (pa_cons (pe_call G5 hr rfl D5.g D5.F.kp D5.b .nil pass0 (pa_cons (pv 1) (pa_cons (pv 2) pa_nil))) (pa_cons (pe_ix ix_list (pv 2) (pe_un un_neg pe_int) (fun _ _ => rfl)) pa_nil)))))))), ?_⟩
    have fin : ∀ H1, ∀ p, H1 p = some (.lst ((bestP ns).map V.int)) → Q (.ref p) H1 := fun H1 p e => q H1 p (by rw [← best_ok ns h3]; exact e)
    have hall : allB ns 4294967296 = true := allB_true fun x hx => by have := hb x hx; omega
    refine ⟨_, rfl, 3, 16, rfl, rfl, .inl ⟨by decide, by decide⟩, a, ns, 48, rfl, hS, _, rfl, ?_⟩
    rw [hall, Bool.and_true]
    by_cases c : (ns.length : Int) ≤ 48
    · rw [decide_eq_true c]
      refine iff_ rfl ?_
      refine ⟨_, rfl, a, ns, rfl, hS, h3, by omega, fun H1 p1 rs s1 n1 e1 hT => ?_⟩
      have hJ : JobsAt H1 rs (jobsOf ns) := JobsAt.of hT fun x hx => (hb x hx).1
      have jl := jobsOf_len ns
      refine ⟨_, rfl, p1, rs, jobsOf ns, rfl, SqL.of e1, hJ, _, rfl, ?_⟩
      cases ho : ordF 0 (jobsOf ns) with
      | false =>
        refine ift rfl ?_
        refine ⟨(by show 1 ≤ sizeLine; decide), fun p hp => fin _ p ?_⟩
        rw [upd_same, bestP, if_neg (by omega), if_pos ho]
        rfl
      | true =>
        refine iff_ rfl ?_
        refine ⟨_, rfl, p1, rs, jobsOf ns, rfl, SqL.of e1, hJ, by omega, ho, fun H2 p2 s2 n2 e2 => ?_⟩
        have hl1 : ((wl (jobsOf ns) (jobsOf ns).length).map V.int).length = (jobsOf ns).length + 1 := by rw [List.length_map, wl_len]
        have a1 : atI ((wl (jobsOf ns) (jobsOf ns).length).map V.int) (-1) = some (.int ((Sh73.best (jobsOf ns) (jobsOf ns).length (topE (jobsOf ns)) : Nat) : Int)) := atI_end (by rw [hl1]; exact int_map_at (wl_at _ (Nat.le_refl _))) (by rw [hl1]; omega)
        refine ⟨_, rfl, _, rfl, p1, p2, rs, jobsOf ns, rfl, SqL.of (s2 _ _ e1), hJ.same s2, SqL.of e2, by omega, ho, fun H3 p3 s3 n3 e3 => ?_⟩
        refine ⟨_, rfl, 1, rfl, p2, _, _, _, rfl, rfl, SqL.of (s3 _ _ e2), a1, ?_⟩
        have cl := chosen_len (jobsOf ns) (jobsOf ns).length (topE (jobsOf ns))
        have nl : (natL (Sh73.chosen (jobsOf ns) (jobsOf ns).length (topE (jobsOf ns)))).length = (Sh73.chosen (jobsOf ns) (jobsOf ns).length (topE (jobsOf ns))).length := List.length_map ..
        refine ⟨p3, _, _, rfl, e3, by omega, fun H4 p4 s4 n4 e4 => fin _ p4 ?_⟩
        rw [e4, bestP, if_neg (by omega), if_neg (by rw [ho]; decide), nl]
        rfl
    · rw [decide_eq_false c]
      refine ift rfl ?_
      refine ⟨(by show 1 ≤ sizeLine; decide), fun p hp => fin _ p ?_⟩
      rw [upd_same, bestP, if_pos c]
      rfl
theorem asked_best {l : List Int} (h : PySh73.np_best_asked l = true) : l.length = 3 * (l.length / 3) := by
  unfold PySh73.np_best_asked Sh73Neutral.asked at h
  rw [Bool.and_eq_true] at h
  have h1 := h.1
  simp only [Sh73Neutral.asked1, Bool.and_eq_true] at h1
  have h2 := h1.2
  have e1 : (Sh73Neutral.nats l).length = l.length := List.length_map ..
  rw [e1] at h2
  split at h2
  · exact beq_iff_eq.mp h2
  · rw [Bool.or_eq_true] at h2
    rcases h2 with h2 | h2
    · rw [List.isEmpty_iff] at h2
      rw [h2]
      rfl
    · exact beq_iff_eq.mp h2
end
theorem all_mk {P : Program} {w : World} {K : PySem.W.Frag} {h : Heap} {mg : Str → Option Value} {fa f0 f1 f2 f3 f4 f5 f6 f7 f8 : Addr} (X : K.In h) (G : h.Ns mainGlobals mg) (hfa : mg "np_best" = some (.ref fa))
    {od0 an0 od1 an1 od2 an2 od3 an3 od4 an4 od5 an5 od6 an6 od7 an7 od8 an8 : Option Addr} {sl0 sl1 sl2 sl3 sl4 sl5 sl6 sl7 sl8 : Array (Option Value)} {oc0 kV0 dc0 pm0 cd0 ct0 oc1 kV1 dc1 pm1 cd1 ct1 oc2 kV2 dc2 pm2 cd2 ct2 oc3 kV3 dc3 pm3 cd3 ct3 oc4 kV4 dc4 pm4 cd4 ct4 oc5 kV5 dc5 pm5 cd5 ct5 oc6 kV6 dc6 pm6 cd6 ct6 oc7 kV7 dc7 pm7 cd7 ct7 oc8 kV8 dc8 pm8 cd8 ct8 : Value}
    {t_OUT_OF_RANGE t_JOBS_OUT_OF_ORDER t_WORD_SPAN t_MOST_JOBS : Tok}
    (g_OUT_OF_RANGE : PySem.W.nsIn K mainGlobals "OUT_OF_RANGE" = some (some (.int (-2) t_OUT_OF_RANGE)))
    (g_JOBS_OUT_OF_ORDER : PySem.W.nsIn K mainGlobals "JOBS_OUT_OF_ORDER" = some (some (.int (-3) t_JOBS_OUT_OF_ORDER)))
    (g_WORD_SPAN : PySem.W.nsIn K mainGlobals "WORD_SPAN" = some (some (.int 4294967296 t_WORD_SPAN)))
    (g_MOST_JOBS : PySem.W.nsIn K mainGlobals "MOST_JOBS" = some (some (.int 16 t_MOST_JOBS)))
    (m_len : PySem.W.nsIn K mainGlobals "len" = some none)
    (m_max : PySem.W.nsIn K mainGlobals "max" = some none)
    (m_range : PySem.W.nsIn K mainGlobals "range" = some none)
    (a0 : PySem.W.nsIn K mainGlobals "all_below" = some (some (.ref f0))) (l0 : K.lookup f0 = some ⟨oc0, od0, .func (PySem.W.fnOf "all_below" "all_below" (defArgs s_all_below) (defBody s_all_below) (defScope s_all_below) .none kV0 dc0 pm0 an0 cd0 ct0), sl0⟩) (c0 : PySem.W.codeIn K cd0 "all_below" = true) (k0 : PySem.W.keepIn K (.ref f0) = true)
    (a1 : PySem.W.nsIn K mainGlobals "words_in_range" = some (some (.ref f1))) (l1 : K.lookup f1 = some ⟨oc1, od1, .func (PySem.W.fnOf "words_in_range" "words_in_range" (defArgs s_words_in_range) (defBody s_words_in_range) (defScope s_words_in_range) .none kV1 dc1 pm1 an1 cd1 ct1), sl1⟩) (c1 : PySem.W.codeIn K cd1 "words_in_range" = true) (k1 : PySem.W.keepIn K (.ref f1) = true)
    (a2 : PySem.W.nsIn K mainGlobals "in_threes" = some (some (.ref f2))) (l2 : K.lookup f2 = some ⟨oc2, od2, .func (PySem.W.fnOf "in_threes" "in_threes" (defArgs s_in_threes) (defBody s_in_threes) (defScope s_in_threes) .none kV2 dc2 pm2 an2 cd2 ct2), sl2⟩) (c2 : PySem.W.codeIn K cd2 "in_threes" = true) (k2 : PySem.W.keepIn K (.ref f2) = true)
    (a3 : PySem.W.nsIn K mainGlobals "jobs_in_order" = some (some (.ref f3))) (l3 : K.lookup f3 = some ⟨oc3, od3, .func (PySem.W.fnOf "jobs_in_order" "jobs_in_order" (defArgs s_jobs_in_order) (defBody s_jobs_in_order) (defScope s_jobs_in_order) .none kV3 dc3 pm3 an3 cd3 ct3), sl3⟩) (c3 : PySem.W.codeIn K cd3 "jobs_in_order" = true) (k3 : PySem.W.keepIn K (.ref f3) = true)
    (a4 : PySem.W.nsIn K mainGlobals "ended_by" = some (some (.ref f4))) (l4 : K.lookup f4 = some ⟨oc4, od4, .func (PySem.W.fnOf "ended_by" "ended_by" (defArgs s_ended_by) (defBody s_ended_by) (defScope s_ended_by) .none kV4 dc4 pm4 an4 cd4 ct4), sl4⟩) (c4 : PySem.W.codeIn K cd4 "ended_by" = true) (k4 : PySem.W.keepIn K (.ref f4) = true)
    (a5 : PySem.W.nsIn K mainGlobals "best_worths" = some (some (.ref f5))) (l5 : K.lookup f5 = some ⟨oc5, od5, .func (PySem.W.fnOf "best_worths" "best_worths" (defArgs s_best_worths) (defBody s_best_worths) (defScope s_best_worths) .none kV5 dc5 pm5 an5 cd5 ct5), sl5⟩) (c5 : PySem.W.codeIn K cd5 "best_worths" = true) (k5 : PySem.W.keepIn K (.ref f5) = true)
    (a6 : PySem.W.nsIn K mainGlobals "chosen_jobs" = some (some (.ref f6))) (l6 : K.lookup f6 = some ⟨oc6, od6, .func (PySem.W.fnOf "chosen_jobs" "chosen_jobs" (defArgs s_chosen_jobs) (defBody s_chosen_jobs) (defScope s_chosen_jobs) .none kV6 dc6 pm6 an6 cd6 ct6), sl6⟩) (c6 : PySem.W.codeIn K cd6 "chosen_jobs" = true) (k6 : PySem.W.keepIn K (.ref f6) = true)
    (a7 : PySem.W.nsIn K mainGlobals "two_lists" = some (some (.ref f7))) (l7 : K.lookup f7 = some ⟨oc7, od7, .func (PySem.W.fnOf "two_lists" "two_lists" (defArgs s_two_lists) (defBody s_two_lists) (defScope s_two_lists) .none kV7 dc7 pm7 an7 cd7 ct7), sl7⟩) (c7 : PySem.W.codeIn K cd7 "two_lists" = true) (k7 : PySem.W.keepIn K (.ref f7) = true)
    (a8 : PySem.W.nsIn K mainGlobals "np_best" = some (some (.ref f8))) (l8 : K.lookup f8 = some ⟨oc8, od8, .func (PySem.W.fnOf "np_best" "np_best" (defArgs s_np_best) (defBody s_np_best) (defScope s_np_best) .none kV8 dc8 pm8 an8 cd8 ct8), sl8⟩) (c8 : PySem.W.codeIn K cd8 "np_best" = true) (k8 : PySem.W.keepIn K (.ref f8) = true) :
    ∃ fd : FuncData, (∀ (s : Shared) (us : List Value), us.length = (["rows"] : List Str).length → BindsTo s fd ⟨us, []⟩ ((["rows"] : List Str).zip us)) ∧ ∀ base : Heap, K.In base → base.Ns mainGlobals mg → FnOk P w K mg base CX0 3 fa fd ["rows"] (sp_np_best K) := by
  have e := hfa.symm.trans (PySem.W.mg_of X G a8)
  cases e
  have F0 := fun_mk (st := s_all_below) l0 c0 k0
  have b0 := F0.binds (ps := ["numbers", "span"]) fun _ _ _ _ _ _ us hl => match us, hl with | [_, _], _ => rfl
  have F1 := fun_mk (st := s_words_in_range) l1 c1 k1
  have b1 := F1.binds (ps := ["words", "most"]) fun _ _ _ _ _ _ us hl => match us, hl with | [_, _], _ => rfl
  have F2 := fun_mk (st := s_in_threes) l2 c2 k2
  have b2 := F2.binds (ps := ["numbers"]) fun _ _ _ _ _ _ us hl => match us, hl with | [_], _ => rfl
  have F3 := fun_mk (st := s_jobs_in_order) l3 c3 k3
  have b3 := F3.binds (ps := ["jobs"]) fun _ _ _ _ _ _ us hl => match us, hl with | [_], _ => rfl
  have F4 := fun_mk (st := s_ended_by) l4 c4 k4
  have b4 := F4.binds (ps := ["jobs", "moment"]) fun _ _ _ _ _ _ us hl => match us, hl with | [_, _], _ => rfl
  have F5 := fun_mk (st := s_best_worths) l5 c5 k5
  have b5 := F5.binds (ps := ["jobs"]) fun _ _ _ _ _ _ us hl => match us, hl with | [_], _ => rfl
  have F6 := fun_mk (st := s_chosen_jobs) l6 c6 k6
  have b6 := F6.binds (ps := ["jobs", "worths"]) fun _ _ _ _ _ _ us hl => match us, hl with | [_, _], _ => rfl
  have F7 := fun_mk (st := s_two_lists) l7 c7 k7
  have b7 := F7.binds (ps := ["numbers", "together"]) fun _ _ _ _ _ _ us hl => match us, hl with | [_, _], _ => rfl
  have F8 := fun_mk (st := s_np_best) l8 c8 k8
  have b8 := F8.binds (ps := ["rows"]) fun _ _ _ _ _ _ us hl => match us, hl with | [_], _ => rfl
  have T : Txt K mg := ⟨⟨_, PySem.W.mg_of X G g_OUT_OF_RANGE⟩, ⟨_, PySem.W.mg_of X G g_JOBS_OUT_OF_ORDER⟩, ⟨_, PySem.W.mg_of X G g_WORD_SPAN⟩, ⟨_, PySem.W.mg_of X G g_MOST_JOBS⟩, PySem.W.mg_none_of X G m_len, PySem.W.mg_none_of X G m_max, PySem.W.mg_none_of X G m_range, ⟨_, _, F0, b0, PySem.W.mg_of X G a0⟩, ⟨_, _, F1, b1, PySem.W.mg_of X G a1⟩, ⟨_, _, F2, b2, PySem.W.mg_of X G a2⟩, ⟨_, _, F3, b3, PySem.W.mg_of X G a3⟩, ⟨_, _, F4, b4, PySem.W.mg_of X G a4⟩, ⟨_, _, F5, b5, PySem.W.mg_of X G a5⟩, ⟨_, _, F6, b6, PySem.W.mg_of X G a6⟩, ⟨_, _, F7, b7, PySem.W.mg_of X G a7⟩⟩
  exact ⟨PySem.W.fnOf "np_best" "np_best" (defArgs s_np_best) (defBody s_np_best) (defScope s_np_best) .none kV8 dc8 pm8 an8 cd8 ct8, fun s us hu => match us, hu with | [_], _ => .of_eq rfl, fun base _ _ => ok_np_best T ⟨F8, b8, PySem.W.mg_of X G a8⟩⟩
end NP
open PySem PySem.W PyProof.Rows
set_option maxRecDepth 100000 in
set_option maxHeartbeats 8000000 in
theorem PySem.Challenge.cw_nightplan_s05_np_best_holds : PySem.Challenge.rw_nightplan_s05_np_best.Holds := by
  w_on; k_headS; (case hw => exact ⟨[.list []], by decide +kernel, by decide +kernel⟩)
  k_fillS
  refine L2.walk_specK (r := PySem.Challenge.rw_nightplan_s05_np_best) (k := 3) (CX := L2.CX0) (ps := ["rows"]) (sp := NP.sp_np_best) (by decide +kernel) rfl rfl ⟨rfl, by decide, by decide⟩ (fun w h Y => PySem.W.kIn_of Y) ?F ?S (fun _ _ _ _ z => z)
  case F =>
    intro w mg fa h Y KX G hmg
    refine' NP.all_mk KX G hmg ?g_OUT_OF_RANGE ?g_JOBS_OUT_OF_ORDER ?g_WORD_SPAN ?g_MOST_JOBS ?m_len ?m_max ?m_range ?a0 ?l0 ?c0 ?k0 ?a1 ?l1 ?c1 ?k1 ?a2 ?l2 ?c2 ?k2 ?a3 ?l3 ?c3 ?k3 ?a4 ?l4 ?c4 ?k4 ?a5 ?l5 ?c5 ?k5 ?a6 ?l6 ?c6 ?k6 ?a7 ?l7 ?c7 ?k7 ?a8 ?l8 ?c8 ?k8
    (case g_OUT_OF_RANGE => k_is)
    (case g_JOBS_OUT_OF_ORDER => k_is)
    (case g_WORD_SPAN => k_is)
    (case g_MOST_JOBS => k_is)
    (case m_len => k_is)
    (case m_max => k_is)
    (case m_range => k_is)
    (case a0 => k_is)
    (case l0 => k_is)
    (case c0 => k_is)
    (case k0 => k_is)
    (case a1 => k_is)
    (case l1 => k_is)
    (case c1 => k_is)
    (case k1 => k_is)
    (case a2 => k_is)
    (case l2 => k_is)
    (case c2 => k_is)
    (case k2 => k_is)
    (case a3 => k_is)
    (case l3 => k_is)
    (case c3 => k_is)
    (case k3 => k_is)
    (case a4 => k_is)
    (case l4 => k_is)
    (case c4 => k_is)
    (case k4 => k_is)
    (case a5 => k_is)
    (case l5 => k_is)
    (case c5 => k_is)
    (case k5 => k_is)
    (case a6 => k_is)
    (case l6 => k_is)
    (case c6 => k_is)
    (case k6 => k_is)
    (case a7 => k_is)
    (case l7 => k_is)
    (case c7 => k_is)
    (case k7 => k_is)
    (case a8 => k_is)
    (case l8 => k_is)
    (case c8 => k_is)
    (case k8 => k_is)
  case S =>
    intro K H xs a hO hwi hask hx
    obtain ⟨l, u⟩ := a
    cases hx with
    | cons h3 h4 =>
      cases h4
      cases h3 with
      | lst hs ha =>
        have e := L2.ints_dw l _ ha
        subst e
        have q : ((Codec.inLen 0 54 l && l.all (Codec.inInt 0 4294967295)) && true) = true := hwi
        rw [Bool.and_eq_true, Bool.and_eq_true, List.all_eq_true] at q
        exact ⟨_, l, rfl, hs, (Codec.inNat_iff.mp q.1.1).2, fun x hx => Codec.inInt_iff.mp (q.1.2 x hx), NP.asked_best (l := l) hask, fun H' p hp => .lst (L2.SqL.of hp) (L2.dw_ints _)⟩
#print axioms PySem.Challenge.cw_nightplan_s05_np_best_holds

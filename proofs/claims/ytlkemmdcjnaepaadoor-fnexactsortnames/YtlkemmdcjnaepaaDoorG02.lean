/- Signs: spec.Encode. -/
import Derived.Test.YtlkemmdcjnaepaaDoorRows
import Derived.Test.YtlkemmdcjnaepaaDoorG00
import Derived.Test.YtlkemmdcjnaepaaDoorG01
namespace Go.Proofs.YtlkemmdcjnaepaaDoor

section
open Go.RowKit

theorem Tryd.infoByte : (Tryd.prog.info? 5).map (fun i => (i.zero, i.size, i.bytes)) = some (some (.int .u8 0), 1, 1) := by kernel_rfl

theorem mask_i64 (x : Int) (k : Nat) (hk : k < 63) (h0 : 0 ≤ x) (h1 : x < 9223372036854775808) : bits .and .i64 x ((2 ^ k - 1 : Nat) : Int) = x % ((2 ^ k : Nat) : Int) := by
  obtain ⟨X, rfl⟩ := Int.eq_ofNat_of_zero_le h0
  have hp : 2 ^ k < 9223372036854775808 := by
    have := Nat.pow_lt_pow_right (a := 2) (by omega) hk
    omega
  have e : ∀ m : Nat, m < 9223372036854775808 → (BitVec.ofInt 64 (m : Int)).toNat = m := fun m hm => by
    rw [BitVec.ofInt_natCast, BitVec.toNat_ofNat]; exact Nat.mod_eq_of_lt (by omega)
  show IntKind.i64.wrap (((BitVec.ofInt 64 (X : Int) &&& BitVec.ofInt 64 ((2 ^ k - 1 : Nat) : Int)).toNat : Nat) : Int) = _
  rw [BitVec.toNat_and, e X (by omega), e (2 ^ k - 1) (by omega), Nat.and_two_pow_sub_one_eq_mod, wraps_i64 _ (by omega) (by
    have := Nat.mod_lt X (Nat.two_pow_pos k); omega)]
  exact Int.natCast_emod X (2 ^ k)

theorem and63 (x : Int) (h0 : 0 ≤ x) (h1 : x < 9223372036854775808) : bits .and .i64 x 63 = x % 64 := mask_i64 x 6 (by decide) h0 h1
theorem and31 (x : Int) (h0 : 0 ≤ x) (h1 : x < 9223372036854775808) : bits .and .i64 x 31 = x % 32 := mask_i64 x 5 (by decide) h0 h1
theorem and15 (x : Int) (h0 : 0 ≤ x) (h1 : x < 9223372036854775808) : bits .and .i64 x 15 = x % 16 := mask_i64 x 4 (by decide) h0 h1
theorem and7 (x : Int) (h0 : 0 ≤ x) (h1 : x < 9223372036854775808) : bits .and .i64 x 7 = x % 8 := mask_i64 x 3 (by decide) h0 h1

def b8 (x : Int) : UInt8 := UInt8.ofNat x.toNat
def b8s (xs : List Int) : List UInt8 := xs.map b8
def isB (x : Int) : Prop := 0 ≤ x ∧ x < 256

theorem bytesV_b8s (xs : List Int) (h : ∀ x ∈ xs, isB x) : bytesV (b8s xs) = xs.map fun x => .int .u8 x := by
  simp only [bytesV, b8s, List.map_map]
  apply List.map_congr_left
  intro x hx
  have := h x hx
  have e : ((UInt8.ofNat x.toNat).toNat : Int) = x := by
    have h1 := this.1; have h2 := this.2
    simp; omega
  simp only [Function.comp, b8, e]

/-- 'append(out, x, y, ..)', out a row of bytes of the call's own -/
theorem append_bytes (w : World) {ops : Array Oper} {rest : List Oper} {o : Oper} {a : Act} {Q : Exit → Act → World → Prop} (hgd : o.guard = none) (s x : Operand)
    (ho : o.op = .call { callee := .builtin .append, args := #[s, x], argTypes := #[22, 22] }) (base : Nat)
    (v : Value) (l : List UInt8) (xs : List Int) (cs : Array Value) (n : Nat) (hn : xs.length = n) (hcs : cs.toList = xs.map fun x => .int .u8 x) (hxs : ∀ x ∈ xs, isB x) (hl : l.length + n ≤ 140737488355328)
    (hown : w.ownsRow base 5 1 v l.length (bytesV l)) (hs : a.eval s = v) (hx : a.eval x = .slice (some ⟨w.heap.size, 0, none⟩) n n)
    (hbase : base ≤ w.heap.size)
    (h : ∀ v' w', w'.ownsRow base 5 1 v' (l ++ b8s xs).length (bytesV (l ++ b8s xs)) → Below base w w' → wpList Tryd.prog ops Q rest (a.put o.dst v') w') :
    wpList Tryd.prog ops Q (o :: rest) a (w.alloc (.cells cs 5)) := by
  obtain ⟨i0, hi, hz0, hz1, hz2⟩ := info_parts Tryd.infoByte
  have hb := bytesV_b8s xs hxs
  have hcl : ∀ j u, (bytesV (b8s xs))[j]? = some u → (w.alloc (.cells cs 5)).cell? ((⟨w.heap.size, 0, none⟩ : Addr).add j) = some u := by
    intro j u hu
    rw [Addr.add_lit, Nat.zero_add, World.cell?_alloc_mark, ← Array.getElem?_toList, hcs, ← hb]
    exact hu
  have hlb : (bytesV (b8s xs)).length = n := by rw [hb]; simp [hn]
  refine wpList_append_own _ hgd s x 22 ho base 5 i0 (.int .u8 0) 1 1 Tryd.underlying22 hi hz0 hz1 hz2 rfl (by decide) v l.length (bytesV l) hs (World.ownsRow.alloc hown _) ⟨w.heap.size, 0, none⟩ n n (bytesV (b8s xs)) hx (by rw [hlb]; omega) hcl ?_ (by unfold maxLen; omega) (by omega) (by simp; omega) ?_
  · intro u hu
    rw [hb] at hu
    obtain ⟨y, _, rfl⟩ := List.mem_map.1 hu
    rfl
  · intro v' w' hown' hgrow _
    refine h v' w' ?_ ?_
    · have e : (l ++ b8s xs).length = l.length + n := by simp [b8s, hn]
      rw [bytesV_append, e]
      exact hown'
    · refine ((Below.refl base w).alloc hbase _).grown hgrow (by simp; omega) ?_
      intro k hk
      rcases hown.2 with ⟨rfl, _⟩ | ⟨g, cap, cur, rfl, hg, _⟩
      · simp [Value.ownBlock] at hk
      · simp [Value.ownBlock] at hk; omega

/-- the bytes of a sign -/
def encOne (c : Int) : List Int :=
  if c < 128 then [c] else if c < 2048 then [192 + c / 64, 128 + c % 64] else if c < 65536 then [224 + c / 4096, 128 + c / 64 % 64, 128 + c % 64]
  else [240 + c / 262144, 128 + c / 4096 % 64, 128 + c / 64 % 64, 128 + c % 64]
def encs (l : List Int) : List UInt8 := l.flatMap fun c => b8s (encOne c)
def encN (l : List Int) : List UInt8 := if l.all sgnB then encs l else []

theorem encs_snoc (l : List Int) (c : Int) : encs (l ++ [c]) = encs l ++ b8s (encOne c) := by simp [encs]
theorem take_succ_getD (l : List Int) (k : Nat) (h : k < l.length) : l.take (k + 1) = l.take k ++ [l.getD k 0] := by
  rw [List.take_add_one, List.getElem?_eq_getElem h]; simp [List.getD, h]
theorem encOne_len (c : Int) : (encOne c).length ≤ 4 := by
  unfold encOne
  split
  · simp
  · split
    · simp
    · split <;> simp
theorem encs_len (l : List Int) : (encs l).length ≤ 4 * l.length := by
  induction l with
  | nil => simp [encs]
  | cons c l ih =>
    have := encOne_len c
    have e : encs (c :: l) = b8s (encOne c) ++ encs l := rfl
    rw [e, List.length_append, List.length_cons]
    simp only [b8s, List.length_map]
    omega

theorem encN_bad (l : List Int) (k : Nat) (h : k < l.length) (hb : sgnB (l.getD k 0) = false) : encN l = [] := by
  unfold encN
  rw [if_neg]
  intro e
  have : sgnB (l.getD k 0) = true := by
    have hm : l.getD k 0 ∈ l := by simp [List.getD, h]
    exact List.all_eq_true.1 e _ hm
  rw [hb] at this; cases this
theorem encN_all (l : List Int) (h : ∀ t, t < l.length → sgnB (l.getD t 0) = true) : encN l = encs l := by
  unfold encN
  rw [if_pos]
  refine List.all_eq_true.2 fun x hx => ?_
  obtain ⟨t, ht, rfl⟩ := List.mem_iff_getElem.1 hx
  have := h t ht
  simpa [List.getD, ht] using this

theorem sgnB_le (c : Int) (h : sgnB c = true) : 0 ≤ c ∧ c ≤ 1114111 := by
  simp only [sgnB, inB, Bool.and_eq_true, decide_eq_true_eq] at h
  exact h.1

set_option maxRecDepth 100000 in
set_option maxHeartbeats 2000000 in
theorem sEncode (v : Value) (l : List Int) (w : World) (hl : l.length ≤ 1048576) (hv : IntsAt w v l) :
    Calls Tryd.prog 54 #[v] w fun e w' => e = .returned (.string ⟨(encN l).toArray⟩) ∧ Below w.heap.size w w' := by
  obtain ⟨a, ca, rfl, hva⟩ := hv
  have HBAD := encN_bad l
  have HALL := encN_all l
  have HST : ∀ k, k < l.length → encs (l.take (k + 1)) = encs (l.take k) ++ b8s (encOne (l.getD k 0)) := fun k hk => by rw [take_succ_getD l k hk, encs_snoc]
  have HLE : ∀ k, k ≤ l.length → (encs (l.take k)).length ≤ 4194304 := fun k hk => by
    have := encs_len (l.take k)
    simp at this; omega
  have HT : encs (l.take l.length) = encs l := by rw [List.take_length]
  have H0 : encs (l.take 0) = [] := by simp [encs]
  generalize encN l = r at HBAD HALL ⊢
  generalize encs l = rr at HALL HT
  obtain ⟨E, HE⟩ : ∃ E : Nat → List UInt8, Hid (E = fun k => encs (l.take k)) := ⟨_, rfl⟩
  have HST' : Hid (∀ k, k < l.length → E (k + 1) = E k ++ b8s (encOne (l.getD k 0))) := by rw [HE.out]; exact HST
  have HLE' : Hid (∀ k, k ≤ l.length → (E k).length ≤ 4194304) := by rw [HE.out]; exact HLE
  have HT' : Hid (E l.length = rr) := by rw [HE.out]; exact HT
  have H0' : Hid (E 0 = []) := by rw [HE.out]; exact H0
  clear HST HLE HT H0 HE
  obtain ⟨n, HN⟩ : ∃ n, Hid (n = l.length) := ⟨_, rfl⟩
  rw [← HN.out] at hva hl HBAD HALL HST' HLE' HT' ⊢
  go_enter Tryd.func54, Tryd.ntmps54
  go_wp2
  go_loopw [3, 4] (fun o i wr => ∃ k : Nat, k ≤ n ∧ i = .int .i64 k ∧ wr.ownsRow w.heap.size 5 1 o (E k).length (bytesV (E k)) ∧ (∀ t, t < k → sgnB (l.getD t 0) = true) ∧ Below w.heap.size w wr) (fun _ i _ => n - (intOf i).toNat)
  case atStart => exact ⟨0, Nat.zero_le _, rfl, by rw [H0'.out]; exact empty_row _ _, fun t ht => by omega, below_lit _ _⟩
  case round =>
    obtain ⟨k, hk, rfl, hown, hall, hbel⟩ := hrel
    by_cases hlt : k < n
    · obtain ⟨b1, o1, rfl, hb1, hc1⟩ := hva k hlt
      have hc1' := (hbel.cell (p := ⟨b1, o1 + k, none⟩) hb1).trans hc1
      have HB : Hid (sgnB (l.getD k 0) = false → r = []) := HBAD k hlt
      have HS : Hid (E (k + 1) = E k ++ b8s (encOne (l.getD k 0))) := HST'.out k hlt
      have HL : (E k).length ≤ 4194304 := HLE'.out k hk
      have HA : Hid (sgnB (l.getD k 0) = true → ∀ t, t < k + 1 → sgnB (l.getD t 0) = true) := fun h t ht => by
        by_cases htk : t < k
        · exact hall t htk
        · obtain rfl : t = k := by omega
          exact h
      generalize l.getD k 0 = x at hc1' HB HS HA
      clear HBAD HALL hc1 hva hall
      cases hx : sgnB x
      · have HR := HB.out hx
        subst HR
        go_wp2_with (go_at_call 70; refine (l3Sign_any _ _).mono ?_; rintro e w' ⟨rfl, rfl⟩)
        go_ret
        exact ⟨rfl, hbel⟩
      · have hb := sgnB_le x hx
        have HO : Hid (encOne x = if x < 128 then [x] else if x < 2048 then [192 + x / 64, 128 + x % 64] else if x < 65536 then [224 + x / 4096, 128 + x / 64 % 64, 128 + x % 64]
          else [240 + x / 262144, 128 + x / 4096 % 64, 128 + x / 64 % 64, 128 + x % 64]) := rfl
        generalize encOne x = q at HO HS
        have m0 := and63 x (by omega) (by omega)
        have m1 := and63 (x / 64) (by omega) (by omega)
        have m2 := and63 (x / 4096) (by omega) (by omega)
        by_cases h1 : x < 128
        · have HQ : Hid (q = [x]) := by show _ = _; rw [HO.out, if_pos h1]
          clear HO
          go_wp2_with (first | (go_at_call 70; refine (l3Sign_any _ _).mono ?_; rintro e w' ⟨rfl, rfl⟩) | (at_builtin; refine append_bytes wr rfl (.tmp 44) (.tmp 47) rfl w.heap.size _ (E k) [x] _ 1 rfl rfl ?_ (by omega) hown rfl rfl hbel.size ?_; (· intro y hy; simp at hy; subst hy; unfold isB; omega); intro v' w1 hown1 hbel1))
          go_roundw
          case rel => exact ⟨k + 1, by omega, by go_num, by rw [HS.out, HQ.out]; exact hown1, HA.out hx, hbel.trans hbel1⟩
          case measure => simp [intOf]; omega
        · by_cases h2 : x < 2048
          · have HQ : Hid (q = [192 + x / 64, 128 + x % 64]) := by show _ = _; rw [HO.out, if_neg h1, if_pos h2]
            clear HO
            obtain ⟨y0, hy0, hz0⟩ : ∃ y, 192 + x / 64 = y ∧ isB y := ⟨_, rfl, by unfold isB; omega⟩
            obtain ⟨y1, hy1, hz1⟩ : ∃ y, 128 + x % 64 = y ∧ isB y := ⟨_, rfl, by unfold isB; omega⟩
            rw [hy0, hy1] at HQ
            have hw0 : y0 % 256 = y0 := by unfold isB at hz0; omega
            have hw1 : y1 % 256 = y1 := by unfold isB at hz1; omega
            go_wp2_with (first | (go_at_call 70; refine (l3Sign_any _ _).mono ?_; rintro e w' ⟨rfl, rfl⟩) | (at_builtin; refine append_bytes wr rfl (.tmp 52) (.tmp 61) rfl w.heap.size _ (E k) [y0, y1] _ 2 rfl rfl ?_ (by omega) hown rfl rfl hbel.size ?_; (· intro y hy; simp at hy; rcases hy with rfl | rfl <;> assumption); intro v' w1 hown1 hbel1))
            go_roundw
            case rel => exact ⟨k + 1, by omega, by go_num, by rw [HS.out, HQ.out]; exact hown1, HA.out hx, hbel.trans hbel1⟩
            case measure => simp [intOf]; omega
          · by_cases h3 : x < 65536
            · have HQ : Hid (q = [224 + x / 4096, 128 + x / 64 % 64, 128 + x % 64]) := by show _ = _; rw [HO.out, if_neg h1, if_neg h2, if_pos h3]
              clear HO
              obtain ⟨y0, hy0, hz0⟩ : ∃ y, 224 + x / 4096 = y ∧ isB y := ⟨_, rfl, by unfold isB; omega⟩
              obtain ⟨y1, hy1, hz1⟩ : ∃ y, 128 + x / 64 % 64 = y ∧ isB y := ⟨_, rfl, by unfold isB; omega⟩
              obtain ⟨y2, hy2, hz2⟩ : ∃ y, 128 + x % 64 = y ∧ isB y := ⟨_, rfl, by unfold isB; omega⟩
              rw [hy0, hy1, hy2] at HQ
              have hw0 : y0 % 256 = y0 := by unfold isB at hz0; omega
              have hw1 : y1 % 256 = y1 := by unfold isB at hz1; omega
              have hw2 : y2 % 256 = y2 := by unfold isB at hz2; omega
              go_wp2_with (first | (go_at_call 70; refine (l3Sign_any _ _).mono ?_; rintro e w' ⟨rfl, rfl⟩) | (at_builtin; refine append_bytes wr rfl (.tmp 66) (.tmp 80) rfl w.heap.size _ (E k) [y0, y1, y2] _ 3 rfl rfl ?_ (by omega) hown rfl rfl hbel.size ?_; (· intro y hy; simp at hy; rcases hy with rfl | rfl | rfl <;> assumption); intro v' w1 hown1 hbel1))
              go_roundw
              case rel => exact ⟨k + 1, by omega, by go_num, by rw [HS.out, HQ.out]; exact hown1, HA.out hx, hbel.trans hbel1⟩
              case measure => simp [intOf]; omega
            · have HQ : Hid (q = [240 + x / 262144, 128 + x / 4096 % 64, 128 + x / 64 % 64, 128 + x % 64]) := by show _ = _; rw [HO.out, if_neg h1, if_neg h2, if_neg h3]
              clear HO
              obtain ⟨y0, hy0, hz0⟩ : ∃ y, 240 + x / 262144 = y ∧ isB y := ⟨_, rfl, by unfold isB; omega⟩
              obtain ⟨y1, hy1, hz1⟩ : ∃ y, 128 + x / 4096 % 64 = y ∧ isB y := ⟨_, rfl, by unfold isB; omega⟩
              obtain ⟨y2, hy2, hz2⟩ : ∃ y, 128 + x / 64 % 64 = y ∧ isB y := ⟨_, rfl, by unfold isB; omega⟩
              obtain ⟨y3, hy3, hz3⟩ : ∃ y, 128 + x % 64 = y ∧ isB y := ⟨_, rfl, by unfold isB; omega⟩
              rw [hy0, hy1, hy2, hy3] at HQ
              have hw0 : y0 % 256 = y0 := by unfold isB at hz0; omega
              have hw1 : y1 % 256 = y1 := by unfold isB at hz1; omega
              have hw2 : y2 % 256 = y2 := by unfold isB at hz2; omega
              have hw3 : y3 % 256 = y3 := by unfold isB at hz3; omega
              go_wp2_with (first | (go_at_call 70; refine (l3Sign_any _ _).mono ?_; rintro e w' ⟨rfl, rfl⟩) | (at_builtin; refine append_bytes wr rfl (.tmp 20) (.tmp 39) rfl w.heap.size _ (E k) [y0, y1, y2, y3] _ 4 rfl rfl ?_ (by omega) hown rfl rfl hbel.size ?_; (· intro y hy; simp at hy; rcases hy with rfl | rfl | rfl | rfl <;> assumption); intro v' w1 hown1 hbel1))
              go_roundw
              case rel => exact ⟨k + 1, by omega, by go_num, by rw [HS.out, HQ.out]; exact hown1, HA.out hx, hbel.trans hbel1⟩
              case measure => simp [intOf]; omega
    · obtain rfl : k = n := by omega
      have HR : Hid (r = rr) := HALL hall
      rw [HT'.out] at hown
      have hcv := row_string (P := Tryd.prog) (T := 9) Tryd.underlying22 Tryd.underlying5 Tryd.underlying9 hown
      go_wp2
      go_ret
      exact ⟨ret_str (by rw [HR.out]), hbel⟩
end

end Go.Proofs.YtlkemmdcjnaepaaDoor

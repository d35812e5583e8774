/- Names in order: impl.unitsOfName: the units of a name's key, each as a text. Names in order: a name put where it stands; pieces of a row of texts. Names in order: impl.Starts. -/
import Derived.Test.YtlkemmdcjnaepaaDoorRows
import Derived.Test.YtlkemmdcjnaepaaDoorG31
import Derived.Test.YtlkemmdcjnaepaaDoorG35
import Derived.Test.YtlkemmdcjnaepaaDoorG30
import Derived.Test.YtlkemmdcjnaepaaDoorG19
import Derived.Test.YtlkemmdcjnaepaaDoorG26
import Derived.Test.YtlkemmdcjnaepaaDoorG24
import Derived.Deep.Cut
import Derived.Deep.CutRange
import Derived.Deep.RegionWith
import Derived.Deep.QuietTactic
import Derived.BigQuiet
namespace Go.Proofs.YtlkemmdcjnaepaaDoor

section
open Go.RowKit

/-- what is told of a name: its units as texts, and is it one? -/
def UnSays (w : World) (e : Ending) (w' : World) (q : Bool) (us : List ByteArray) : Prop :=
  ∃ a cap, e = .returned (.tuple #[.slice a us.length cap, .bool q]) ∧ TxtRow w' w.heap.size (.slice a us.length cap) us ∧ Below w.heap.size w w'
def unT (s : ByteArray) : List ByteArray := if (nameL s).isSome then (un14 s).map encT else []
theorem encT_take (ls : List (List Int)) (k : Nat) (h : k < ls.length) : (ls.take (k + 1)).map encT = (ls.take k).map encT ++ [encT (lD ls k)] := by
  rw [List.take_add_one, List.getElem?_eq_getElem h, List.map_append]
  congr 1
  simp [lD, List.getD, h]
theorem TxtRow.slice {w : World} {base : Nat} {v : Value} {l : List ByteArray} (h : TxtRow w base v l) : ∃ a cap, v = .slice a l.length cap := by
  obtain ⟨a, cap, e, -⟩ := h.at
  exact ⟨a, cap, e⟩

set_option maxRecDepth 100000 in
set_option maxHeartbeats 2000000 in
theorem unitsOfName_any (s : ByteArray) (w : World) (hT : Tabs w) (hs : s.size ≤ 1048576) :
    Calls Tryd.prog 45 #[.string s] w fun e w' => UnSays w e w' (nameL s).isSome (unT s) := by
  have HK := iKeyOf s w hT hs
  have HE : Hid (unT s = if (nameL s).isSome then (un14 s).map encT else []) := rfl
  have hks := key14_size s hs
  obtain ⟨hrl, hrl2⟩ := un14_row s hs
  generalize unT s = R at HE ⊢
  cases hn : nameL s with
  | none =>
    rw [keyN_none hn] at HK
    rw [hn] at HE
    obtain rfl : R = [] := HE.out
    go_enter Tryd.func45, Tryd.ntmps45
    go_wp2_with fail
    refine HK.mono ?_
    rintro e w1 ⟨rfl, b1⟩
    go_wp2
    go_ret2
    exact ⟨none, 0, rfl, World.ownsRow_nil _ _ _ _, b1⟩
  | some l =>
    rw [hn] at HE
    have HE : Hid (R = (un14 s).map encT) := HE.out
    rw [un14_name hn] at HE hrl hrl2
    rw [keyN_some hn] at HK
    have hkk : key14 s = ⟨(encN (keyL l)).toArray⟩ := by
      unfold key14
      rw [keyN_some hn, if_pos rfl]
    rw [hkk] at hks
    have hd := dec_enc' (keyL_sgn (dec_sgn (nameL_some hn).1))
    have HD := fun W (h : Below w.heap.size w W) => iDecode ⟨(encN (keyL l)).toArray⟩ W hks (hT.below h).utf
    rw [hd] at HD
    have hkl : (keyL l).length ≤ 1048576 := by
      have := decN_len ⟨(encN (keyL l)).toArray⟩
      rw [hd] at this
      simp only [Option.getD_some] at this
      omega
    have HU := fun v W h => iUnits v (keyL l) W hkl h
    have HTK : Hid (∀ k, k < (unitsN (keyL l)).length → ((unitsN (keyL l)).take (k + 1)).map encT = ((unitsN (keyL l)).take k).map encT ++ [encT (lD (unitsN (keyL l)) k)]) := fun k h => encT_take _ k h
    have HLN : Hid (∀ k, k ≤ (unitsN (keyL l)).length → (((unitsN (keyL l)).take k).map encT).length = k) := fun k h => by rw [List.length_map, List.length_take]; omega
    have HEN : Hid (((unitsN (keyL l)).take (unitsN (keyL l)).length).map encT = R) := by show _ = _; rw [HE.out, List.take_length]
    have HRN : Hid (R.length = (unitsN (keyL l)).length) := by show _ = _; rw [HE.out, List.length_map]
    generalize (⟨(encN (keyL l)).toArray⟩ : ByteArray) = key at HK HD
    generalize unitsN (keyL l) = us at HU HTK HLN HEN HRN hrl hrl2
    generalize keyL l = kl at HD HU
    clear HE hkk hd hks hn hkl
    go_enter Tryd.func45, Tryd.ntmps45
    go_wp2_with fail
    refine HK.mono ?_
    rintro e w1 ⟨rfl, b1⟩
    go_wp2_with fail
    refine (HD w1 b1).mono ?_
    rintro e w2 ⟨v2, rfl, r2, b2⟩
    have B2 := b1.trans (b2.mono b1.size)
    go_wp2_with fail
    refine (HU v2 w2 r2.c).mono ?_
    rintro e w3 ⟨u3, us3, rfl, r3, b3⟩
    have B3 := B2.trans (b3.mono B2.size)
    obtain ⟨vs, va, ca, rfl, hva⟩ := r3.at
    have HV : Hid (∀ t, t < us.length → (∃ b off, va = some ⟨b, off, none⟩ ∧ b < w3.heap.size ∧ w3.cell? ⟨b, off + t, none⟩ = some (vD vs t)) ∧ IntsAt w3 (vD vs t) (lD us t)) := hva
    obtain ⟨n, HN⟩ : ∃ n, Hid (n = us.length) := ⟨_, rfl⟩
    rw [← HN.out] at HV HTK HLN HEN HRN hrl hrl2 ⊢
    clear hva r3 r2 b1 b2 b3 B2 HK HD HU
    go_wp2_with fail
    go_loopw [8, 26] (fun ov iv wr => ∃ k : Nat, k ≤ n ∧ iv = .int .i64 k ∧ TxtRow wr w3.heap.size ov ((us.take k).map encT) ∧ Below w3.heap.size w3 wr) (fun _ iv _ => n - (intOf iv).toNat)
    case atStart => exact ⟨0, Nat.zero_le _, rfl, World.ownsRow_nil _ _ _ _, Below.refl _ _⟩
    case round =>
      obtain ⟨k, hk, rfl, hrow, hbel⟩ := hrel
      by_cases hlt : k < n
      · obtain ⟨⟨bb, o1, rfl, hb1, hc1⟩, hi1⟩ := HV.out k hlt
        have hc1' := (hbel.cell (p := ⟨bb, o1 + k, none⟩) hb1).trans hc1
        have hcall := fun W (h : Below w3.heap.size w3 W) => iEncode (vD vs k) (lD us k) W (hrl2 k hlt) (hi1.below h)
        have HT : Hid _ := HTK.out k hlt
        have HL := HLN.out k hk
        have hkn : (k : Int) < (n : Int) := by omega
        have hk0 : (0 : Int) ≤ (k : Int) := by omega
        have HX : Hid (∀ a b : List ByteArray, a = b ++ [encT (lD us k)] → a = b ++ [(⟨(encN (lD us k)).toArray⟩ : ByteArray)]) := fun a b h => h
        have HT2 : Hid (((us.take (k + 1)).map encT) = ((us.take k).map encT) ++ [(⟨(encN (lD us k)).toArray⟩ : ByteArray)]) := HX.out _ _ HT.out
        clear HX HT
        generalize (⟨(encN (lD us k)).toArray⟩ : ByteArray) = X at hcall HT2
        generalize (us.take k).map encT = RK at hrow HT2 HL
        obtain ⟨s1, hs1⟩ : ∃ s1, s1 = vD vs k := ⟨_, rfl⟩
        rw [← hs1] at hc1' hcall
        obtain ⟨p1, z1, rfl⟩ : ∃ p1 z1, s1 = .slice p1 (lD us k).length z1 := by obtain ⟨x, y, h, -⟩ := hi1; exact ⟨x, y, hs1.trans h⟩
        generalize (lD us k).length = m at hc1' hcall
        clear hc1 hi1 HV HTK HLN HEN hs1 hrl2
        go_wp2_with (first | (go_at_call 66; refine (hcall wr hbel).mono ?_; rintro e w4 ⟨rfl, b4⟩; have hrow1 := TxtRow.below hrow b4; have hbel1 := hbel.trans (b4.mono hbel.size)) | (at_builtin; refine append_txt _ rfl (.tmp 30) (.tmp 33) rfl w3.heap.size _ RK X (by omega) hrow1 rfl rfl hbel1.size ?_; intro v' w5 hrow5 hbel5))
        have HB5 := hbel1.trans hbel5
        go_roundw
        case rel => exact ⟨k + 1, by omega, by go_num, by rw [HT2.out]; exact hrow5, HB5⟩
        case measure => simp [intOf]; omega
      · obtain rfl : k = n := by omega
        have hrow' : TxtRow wr w3.heap.size u8 R := by rw [← HEN.out]; exact hrow
        obtain ⟨a, cap, rfl⟩ := hrow'.slice
        go_wp2
        go_ret2
        exact ⟨a, cap, rfl, TxtRow.mono hrow' B3.size, B3.trans (hbel.mono B3.size)⟩
end

section
open Go.RowKit Go.Sort

/-- the row with x put at k -/
def putT (s : List ByteArray) (x : ByteArray) (k : Nat) : List ByteArray := s.take k ++ [x] ++ s.drop k
theorem putT_len (s : List ByteArray) (x : ByteArray) (k : Nat) : (putT s x k).length = s.length + 1 := by simp [putT]; omega
theorem Srt14.put {l s : List ByteArray} {x : ByteArray} (h : Srt14 l s) (k : Nat) (hk : k ≤ s.length) (hlo : k = 0 ∨ lt14 x s[k - 1]! = false) (hhi : ∀ t, k ≤ t → t < s.length → lt14 x s[t]! = true) : Srt14 (l ++ [x]) (putT s x k) := by
  refine ⟨?_, ?_⟩
  · unfold putT
    have h1 : (s.take k ++ [x] ++ s.drop k).Perm (s.take k ++ s.drop k ++ [x]) := by
      rw [List.append_assoc, List.append_assoc]
      exact List.Perm.append_left _ List.perm_append_comm
    rw [List.take_append_drop] at h1
    exact h1.trans (h.perm.append_right [x])
  · have hs : (s.take k ++ s.drop k).Pairwise fun a b => lt14 b a = false := by rw [List.take_append_drop]; exact h.up
    obtain ⟨p1, p2, p3⟩ := List.pairwise_append.1 hs
    have lo : ∀ a ∈ s.take k, lt14 x a = false := fun a ha => by
      rcases hlo with rfl | hlo
      · simp at ha
      · obtain ⟨t, ht, rfl⟩ := List.getElem_of_mem ha
        rw [List.length_take] at ht
        by_cases e : t = k - 1
        · subst e
          rw [List.getElem_take, ← getElem!_pos s (k - 1) (by omega)]
          exact hlo
        · have h2 : lt14 s[k - 1]! (s.take k)[t] = false := by
            have := List.pairwise_iff_getElem.1 p1 t (k - 1) (by rw [List.length_take]; omega) (by rw [List.length_take]; omega) (by omega)
            rw [getElem!_pos s (k - 1) (by omega)]
            simpa using this
          exact le14_trans h2 hlo
    have hi : ∀ b ∈ s.drop k, lt14 b x = false := fun b hb => by
      obtain ⟨t, ht, rfl⟩ := List.getElem_of_mem hb
      rw [List.length_drop] at ht
      have := hhi (k + t) (by omega) (by omega)
      rw [getElem!_pos s (k + t) (by omega)] at this
      rw [List.getElem_drop]
      exact lt14_asym this
    unfold putT
    rw [List.pairwise_append, List.pairwise_append]
    refine ⟨⟨p1, List.pairwise_singleton _ _, fun a ha b hb => ?_⟩, p2, fun a ha b hb => ?_⟩
    · rw [List.mem_singleton.1 hb]; exact lo a ha
    · rcases List.mem_append.1 ha with ha | ha
      · exact p3 a ha b hb
      · rw [List.mem_singleton.1 ha]; exact hi b hb
theorem Srt14.nil : Srt14 [] [] := ⟨List.Perm.refl _, List.Pairwise.nil⟩
theorem take_txt (l : List ByteArray) (k : Nat) (hk : k < l.length) : l.take (k + 1) = l.take k ++ [l[k]!] := by
  rw [List.take_add_one, List.getElem?_eq_getElem hk, getElem!_pos l k hk]
  rfl

theorem elemTx : Tryd.prog.underlying 24 = some (.slice (Tryd.prog.elem 24)) := by kernel_rfl
theorem sizeTx (w : World) : (sizeOf (Tryd.prog.elem 24)).run Tryd.prog w = .ok 1 w := by kernel_rfl
theorem slice_txt_l (a : Option Addr) (len cap f : Nat) (w : World) (h1 : f ≤ len) : (Instr.slice 24 (.slice a len cap) (some (.int .i64 (f : Int))) none none).run Tryd.prog w = .ok (sliced a f len cap 1) w := by
  rw [run_slice_l w 24 a len cap elemTx .i64 (f : Int) (by omega) (by omega), sizeTx]
  simp [Result.andThen]
theorem slice_txt_h (a : Option Addr) (len cap i : Nat) (w : World) (h1 : i ≤ cap) : (Instr.slice 24 (.slice a len cap) none (some (.int .i64 (i : Int))) none).run Tryd.prog w = .ok (sliced a 0 i cap 1) w := by
  rw [run_slice_h w 24 a len cap elemTx .i64 (i : Int) (by omega) (by omega), sizeTx]
  simp [Result.andThen]
theorem TxtsAt.cut {w : World} {a : Option Addr} {n cap : Nat} {l : List ByteArray} (h : TxtsAt w (.slice a n cap) l) (hn : n = l.length) (f i : Nat) (hf : f ≤ i) (hi : i ≤ l.length) (hcap : l.length ≤ cap) : TxtsAt w (sliced a f i cap 1) ((l.take i).drop f) := by
  obtain ⟨a', cap', e, hnn, hx⟩ := h
  cases e
  have hl : ((l.take i).drop f).length = i - f := by rw [List.length_drop, List.length_take]; omega
  refine ⟨if cap = f then a else a.map (·.add (f * 1)), cap - f, by rw [hl]; rfl, fun h0 => ?_, fun t ht => ?_⟩
  · split at h0
    · rename_i e; omega
    · have : a = none := by cases a with | none => rfl | some x => simp at h0
      have := hnn this
      omega
  · rw [hl] at ht
    obtain ⟨b, off, rfl, hb, hcc⟩ := hx (f + t) (by omega)
    have hg : ((l.take i).drop f)[t]! = l[f + t]! := by
      rw [getElem!_pos _ t (by rw [hl]; exact ht), getElem!_pos l (f + t) (by omega)]
      simp
    rw [hg]
    rw [if_neg (by omega)]
    refine ⟨b, off + f, by simp [Addr.add], hb, ?_⟩
    rw [Nat.add_assoc, hcc]
theorem TxtRow.cap {w : World} {base : Nat} {a : Option Addr} {n cap : Nat} {l : List ByteArray} (h : TxtRow w base (.slice a n cap) l) : l.length ≤ cap := by
  rcases h.2 with ⟨_, h0⟩ | ⟨g, c, cur, e, hg, hh, hnc, -⟩
  · omega
  · cases e; exact hnc
end

section
open Go.RowKit Go.Sort

set_option maxRecDepth 100000 in
set_option maxHeartbeats 1000000 in
theorem equalTx_any (v u : Value) (l m : List ByteArray) (w : World) (hl : l.length ≤ 9223372036854775807) (hv : TxtsAt w v l) (hu : TxtsAt w u m) :
    Calls Tryd.prog 50 #[v, u] w fun e w' => e = .returned (.bool (decide (l = m))) ∧ Below w.heap.size w w' := by
  obtain ⟨a, ca, rfl, -, hva⟩ := hv
  obtain ⟨b, cb, rfl, -, hub⟩ := hu
  by_cases hlen : l.length = m.length
  · have hlen' : ((m.length : Int) != (m.length : Int)) = false := by simp
    obtain ⟨n, HN⟩ : ∃ n, Hid (n = m.length) := ⟨_, rfl⟩
    rw [hlen] at hva hl ⊢
    rw [← HN.out] at hva hub hl hlen' ⊢
    have HEND : Hid ((∀ t, t < n → l[t]! = m[t]!) → decide (l = m) = true) := fun h => decide_eq_true (strs_ext l m hlen fun t ht => h t (by rw [HN.out]; omega))
    have HNO : Hid (∀ k : Nat, ¬ l[k]! = m[k]! → decide (l = m) = false) := fun k h => decide_eq_false fun e => h (by rw [e])
    generalize decide (l = m) = r at HEND HNO ⊢
    clear hlen
    go_enter Tryd.func50, Tryd.ntmps50
    go_wp2
    go_loopw [13] (fun i wr => ∃ k : Nat, k ≤ n ∧ i = .int .i64 k ∧ Hid (∀ t, t < k → l[t]! = m[t]!) ∧ Below w.heap.size w wr) (fun i _ => n - (intOf i).toNat)
    case atStart => exact ⟨0, Nat.zero_le _, rfl, fun t ht => by omega, Below.refl _ _⟩
    case round =>
      obtain ⟨k, hk, rfl, HEQ, hbel⟩ := hrel
      by_cases hlt : k < n
      · obtain ⟨b1, o1, rfl, hb1, hc1⟩ := hva k hlt
        obtain ⟨b2, o2, rfl, hb2, hc2⟩ := hub k hlt
        have hc1' := (hbel.cell (p := ⟨b1, o1 + k, none⟩) hb1).trans hc1
        have hc2' := (hbel.cell (p := ⟨b2, o2 + k, none⟩) hb2).trans hc2
        have HX : Hid (l[k]! = m[k]! → ∀ t, t < k + 1 → l[t]! = m[t]!) := fun h t ht => by
          by_cases e : t = k
          · rw [e]; exact h
          · exact HEQ.out t (by omega)
        have HNK := HNO.out k
        generalize l[k]! = x at hc1' HX HNK
        generalize m[k]! = y at hc2' HX HNK
        have HNK : Hid _ := HNK
        have hkn : (k : Int) < (n : Int) := by omega
        have hk0 : (0 : Int) ≤ (k : Int) := by omega
        clear hc1 hc2 hva hub
        by_cases hxy : x = y
        · have hf : (x.toList == y.toList) = true := by simp [hxy]
          have HX' : Hid _ := HX.out hxy
          clear HX hxy
          go_wp2
          go_quiet (fail)
          go_wp2
          go_roundw
          case rel => exact ⟨k + 1, by omega, by go_num, HX', below_drewN hbel _⟩
          case measure => simp [intOf]; omega
        · have hf : (x.toList == y.toList) = false := by rw [text_beq]; exact decide_eq_false hxy
          have hr : Hid (r = false) := HNK.out hxy
          clear HX hxy HNK
          go_wp2
          go_quiet (fail)
          go_wp2
          go_ret
          exact ⟨ret_bool hr.out.symm, below_drewN hbel _⟩
      · obtain rfl : k = n := by omega
        have hr : Hid (r = true) := HEND.out HEQ.out
        go_wp2
        go_ret
        exact ⟨ret_bool hr.out.symm, hbel⟩
  · have hne : ((l.length : Int) != (m.length : Int)) = true := by simp; omega
    have hneq : ¬ l = m := fun e => hlen (by rw [e])
    rw [decide_eq_false hneq]
    go_enter Tryd.func50, Tryd.ntmps50
    go_wp2
    go_ret
    exact ⟨rfl, Below.refl _ _⟩

theorem unT_yes {s : ByteArray} (h : (nameL s).isSome = true) : unT s = (un14 s).map encT := by unfold unT; rw [if_pos h]
theorem unT_len (s : ByteArray) (hs : s.size ≤ 1048576) : (unT s).length ≤ 1048576 := by
  unfold unT
  split
  · rw [List.length_map]; exact (un14_row s hs).1
  · simp
theorem starts_enc {a b : ByteArray} (ha : (nameL a).isSome = true) (hb : (nameL b).isSome = true) : startsN a b = decide ((unT a).take (unT b).length = unT b) := by
  unfold startsN
  rw [ha, hb, unT_yes ha, unT_yes hb, pre_enc (un14_sgn ha) (un14_sgn hb), List.length_map]
  rfl
theorem starts_short {a b : ByteArray} (ha : (nameL a).isSome = true) (hb : (nameL b).isSome = true) (h : (unT a).length < (unT b).length) : startsN a b = false := by
  rw [starts_enc ha hb]
  refine decide_eq_false fun e => ?_
  have := congrArg List.length e
  rw [List.length_take] at this
  omega

set_option maxRecDepth 100000 in
set_option maxHeartbeats 2000000 in
theorem iStarts (a b : ByteArray) (w : World) (hT : Tabs w) (ha : a.size ≤ 1048576) (hb : b.size ≤ 1048576) :
    Calls Tryd.prog 25 #[.string a, .string b] w fun e w' => e = .returned (.bool (startsN a b)) ∧ Below w.heap.size w w' := by
  have U1 := unitsOfName_any a w hT ha
  have U2 := fun W (h : Below w.heap.size w W) => unitsOfName_any b W (hT.below h) hb
  have hla := unT_len a ha
  have hlb := unT_len b hb
  have HN1 : Hid ((nameL a).isSome = false → startsN a b = false) := fun h => by unfold startsN; rw [h]; rfl
  have HN2 : Hid ((nameL b).isSome = false → startsN a b = false) := fun h => by unfold startsN; rw [h, Bool.false_and, Bool.and_false]
  have HSH : Hid ((nameL a).isSome = true → (nameL b).isSome = true → (unT a).length < (unT b).length → startsN a b = false) := fun h1 h2 h3 => starts_short h1 h2 h3
  have HEN : Hid ((nameL a).isSome = true → (nameL b).isSome = true → startsN a b = decide ((unT a).take (unT b).length = unT b)) := fun h1 h2 => starts_enc h1 h2
  generalize startsN a b = r at HN1 HN2 HSH HEN ⊢
  generalize (nameL a).isSome = qa at U1 HN1 HSH HEN
  generalize (nameL b).isSome = qb at U2 HN2 HSH HEN
  generalize unT a = A at U1 HSH HEN hla
  generalize unT b = B at U2 HSH HEN hlb
  unfold UnSays at U1 U2
  go_enter Tryd.func25, Tryd.ntmps25
  go_wp2_with fail
  refine U1.mono ?_
  rintro e w1 ⟨a1, c1, rfl, r1, b1⟩
  go_wp2_with fail
  refine (U2 w1 b1).mono ?_
  rintro e w2 ⟨a2, c2, rfl, r2, b2⟩
  have B2 := b1.trans (b2.mono b1.size)
  have r1' := TxtRow.below r1 b2
  have hcap := TxtRow.cap r1'
  have t1 := r1'.at
  have t2 := r2.at
  clear U1 U2 r1 r1' r2 b1 b2
  cases qa
  · obtain rfl := HN1.out rfl
    go_wp2
    go_ret
    exact ⟨rfl, B2⟩
  cases qb
  · obtain rfl := HN2.out rfl
    go_wp2
    go_ret
    exact ⟨rfl, B2⟩
  by_cases hlt : A.length < B.length
  · obtain rfl := HSH.out rfl rfl hlt
    have hltz : (A.length : Int) < (B.length : Int) := by omega
    clear hlt HEN HSH
    go_wp2
    go_ret
    exact ⟨rfl, B2⟩
  · have HR := HEN.out rfl rfl
    have hnz : ¬ (A.length : Int) < (B.length : Int) := by omega
    have hcut := t1.cut rfl 0 B.length (Nat.zero_le _) (by omega) hcap
    rw [List.drop_zero] at hcut
    have hsl : ∀ W, (Instr.slice 24 (.slice a1 A.length c1) none (some (.int .i64 (B.length : Int))) none).run Tryd.prog W = .ok (sliced a1 0 B.length c1 1) W := fun W => slice_txt_h a1 A.length c1 B.length W (by omega)
    have HEQ := equalTx_any (sliced a1 0 B.length c1 1) (.slice a2 B.length c2) (A.take B.length) B w2 (by rw [List.length_take]; omega) hcut t2
    generalize sliced a1 0 B.length c1 1 = sv at hsl HEQ
    obtain ⟨z, HZ⟩ : ∃ z, z = decide (A.take B.length = B) := ⟨_, rfl⟩
    rw [← HZ] at HEQ
    obtain rfl : r = z := HR.trans ((decide_eq_decide.2 Iff.rfl).trans HZ.symm)
    clear HR HZ
    clear hlt HEN HSH t1 t2 hcut HN1 HN2
    go_upto_region 5 with fail
    clear hnz hcap hla hlb
    go_wp2_with fail
    refine HEQ.mono ?_
    rintro e w3 ⟨rfl, b3⟩
    go_wp2
    go_ret
    exact ⟨rfl, B2.trans (b3.mono B2.size)⟩
end

end Go.Proofs.YtlkemmdcjnaepaaDoor

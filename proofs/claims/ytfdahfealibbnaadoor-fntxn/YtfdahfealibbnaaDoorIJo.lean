/- Journals, impl: putAll into the journal, withSum, ShowTxn. -/
import Derived.Test.YtfdahfealibbnaaDoorRows
import Derived.Test.YtfdahfealibbnaaDoorIJn
namespace Go.Proofs.YtfdahfealibbnaaDoor
open Go.RowKit Go.Sort

theorem meth_jou (b : Nat) (w : World) : (method 121 54 (.pointer (some ⟨b, 0, none⟩)) "loop.example/g00773/impl.put").run Tryd.prog w = .ok (84, .pointer (some ⟨b, 0, none⟩)) w := by kernel_rfl

/-- a row of writes does not lie in the journal's block -/
theorem JouSt.apart {w : World} {b : Nat} {s : ByteArray} (h : JouSt w b s) {g o : Nat} {x : Wr} (hc : CellsW w g o x) : g ≠ b := by
  rintro rfl
  have h0 := hc.c0
  rw [Joins.cell_of_block h o] at h0
  cases o with
  | zero => simp at h0
  | succ o => simp at h0

set_option maxRecDepth 100000 in
set_option maxHeartbeats 2000000 in
theorem putJou_any (b : Nat) (s : ByteArray) (v : Value) (l : List Wr) (w : World) (hs : s.size ≤ 100) (hl : l.length ≤ 17) (hx : ∀ x ∈ l, x.text.size ≤ 400) (h : JouSt w b s) (hv : WrsAt w v l) :
    Calls Tryd.prog 28 #[.iface 54 (.pointer (some ⟨b, 0, none⟩)), v] w fun e w' => e = .returned (.tuple #[]) ∧ JouSt w' b (s ++ outsT l) ∧ w.grownBy w' (some b) := by
  obtain ⟨a, ca, rfl, -, ha⟩ := hv
  have HAP : Hid (∀ t, t < l.length → ∀ g o, CellsW w g o l[t]! → g ≠ b) := fun t _ g o hc => h.apart hc
  have HST : Hid (∀ k, k < l.length → (s ++ outsT (l.take k)) ++ (varT l[k]!.block ++ pieceT l[k]!.text) = s ++ outsT (l.take (k + 1))) := fun k hk => by
    rw [List.take_succ_eq_append_getElem hk, outsT_snoc, getElem!_pos l k hk, app_assoc]; rfl
  have HSZ : Hid (∀ k, (s ++ outsT (l.take k)).size ≤ 100000) := fun k => by
    have h1 := outsT_size (l.take k) fun x hx' => hx x (List.mem_of_mem_take hx')
    have h2 : (l.take k).length ≤ 17 := by rw [List.length_take]; omega
    rw [app_size]; omega
  have HX : Hid (∀ k, k < l.length → l[k]!.text.size ≤ 400) := fun k hk => hx _ (by rw [getElem!_pos l k hk]; exact List.getElem_mem hk)
  have HE : Hid (s ++ outsT (l.take l.length) = s ++ outsT l) := by show _ = _; rw [List.take_length]
  have H0 : Hid (s ++ outsT (l.take 0) = s) := by show _ = _; simp only [List.take_zero, outsT]; exact app_nil s
  obtain ⟨n, HN⟩ : ∃ n, Hid (n = l.length) := ⟨_, rfl⟩
  obtain ⟨r, HR⟩ : ∃ r, Hid (r = s ++ outsT l) := ⟨_, rfl⟩
  rw [← HR.out] at HE ⊢
  rw [← HN.out] at ha hl HAP HST HX HE ⊢
  have HM := meth_jou b
  go_enter Tryd.func28, Tryd.ntmps28
  go_wp2
  go_loopw [8] (fun i wr => ∃ k : Nat, k ≤ n ∧ i = .int .i64 k ∧ JouSt wr b (s ++ outsT (l.take k)) ∧ w.grownBy wr (some b)) (fun i _ => n - (intOf i).toNat)
  case atStart => exact ⟨0, Nat.zero_le _, rfl, by rw [H0.out]; exact h, ⟨rfl, rfl, rfl, Nat.le_refl _, fun _ _ _ => rfl⟩⟩
  case round =>
    obtain ⟨k, hk, rfl, hj, hg⟩ := hrel
    by_cases hlt : k < n
    · obtain ⟨b1, o1, rfl, hb1, hc1⟩ := ha k hlt
      have hne := HAP.out k hlt _ _ hc1
      have HS := HST.out k hlt
      have hz := HSZ.out k
      have hxs := HX.out k hlt
      have hblk := hg.block b1 hb1 (fun e => hne (Option.some.inj e))
      have c0 := (World.cell?_of_block (a := ⟨b1, o1 + k * 2, none⟩) hblk).trans hc1.c0
      have c1 := (World.cell?_of_block (a := ⟨b1, o1 + k * 2 + 1, none⟩) hblk).trans hc1.c1
      generalize l[k]! = y at c0 c1 HS hxs
      have BX := below_lit wr (.cells #[.int .i64 y.block, .string y.text] 43)
      have HP := jouPut_any b (s ++ outsT (l.take k)) y (wr.alloc (.cells #[.int .i64 y.block, .string y.text] 43)) hz hxs (hj.below BX)
      rw [HS] at HP
      have hgX := gbr_trans hg (gbi_of_below (r := some b) BX)
      obtain ⟨yb, yt⟩ := y
      dsimp only at *
      have hkn : (k : Int) < (n : Int) := by omega
      have hk0 : (0 : Int) ≤ (k : Int) := by omega
      have HGX : Hid _ := hgX
      clear hc1 ha HS hj BX hgX hblk
      go_wp2_with fail
      refine HP.mono ?_
      rintro e w2 ⟨rfl, hj2, hg2⟩
      go_wp2
      go_roundw
      case rel => exact ⟨k + 1, by omega, by go_num, hj2, gbr_trans HGX.out hg2⟩
      case measure => simp [intOf]; omega
    · obtain rfl : k = n := by omega
      rw [HE.out] at hj
      go_wp2
      refine bodyPost_end (v := .tuple #[]) (by simp [results, Tryd.results28, go_sem]) rfl ?_
      exact ⟨rfl, hj, hg⟩

theorem iFix4 (n : Int) (w : World) (h0 : 0 ≤ n) (h1 : n ≤ 4294967295) : Calls Tryd.prog 47 #[.int .i64 n, .int .i64 4] w fun e w' => e = .returned (.string ⟨(fixL 4 n).toArray⟩) ∧ Below w.heap.size w w' := iFixed_yes n 4 w (by decide) h0 (by omega)

theorem iCrcV (s : ByteArray) (hs : s.size ≤ 1048576) (w : World) (hC : CrcTab w) : Calls Tryd.prog 48 #[.string s] w fun e w' => e = .returned (.int .i64 (crcV s)) ∧ Below w.heap.size w w' := iCrc s hs w hC hC.pos

set_option maxRecDepth 100000 in
set_option maxHeartbeats 2000000 in
theorem withSum_any (s : ByteArray) (w : World) (hs : s.size ≤ 1000000) (hC : CrcTab w) :
    Calls Tryd.prog 29 #[.string s] w fun e w' => e = .returned (.string (sumT s)) ∧ Below w.heap.size w w' := by
  have H1 := iCrcV s (by omega) w hC
  have hcv := crcV_in s
  have HF := fun w' => iFix4 (crcV s) w' hcv.1 hcv.2
  have HSZ := sumT_size s
  have HR : Hid (sumT s = (⟨(fixL 4 (crcV s)).toArray⟩ : ByteArray) ++ s) := rfl
  rw [HR.out] at HSZ ⊢
  rw [app_size] at HSZ
  generalize crcV s = cv at *
  generalize (⟨(fixL 4 cv).toArray⟩ : ByteArray) = ft at *
  have hq : ¬ 9223372036854775807 < ft.size + s.size := by omega
  clear HR
  go_enter Tryd.func29, Tryd.ntmps29
  go_wp2_with (first
    | (go_at_call 48; refine H1.mono ?_; rintro e w1 ⟨rfl, b1⟩)
    | (go_at_call 47; refine (HF _).mono ?_; rintro e w2 ⟨rfl, b2⟩))
  go_ret
  exact ⟨rfl, b1.trans (b2.mono b1.size)⟩

end Go.Proofs.YtfdahfealibbnaaDoor

import Derived.Test.YtgjomknpjigkhaaGreatDoorS41
import Derived.Lib.Builder
import Derived.Lib.AppendStr
import Derived.Laws.Externs
import Derived.Shelf.Strings.Builder1
import Derived.Shelf.Strconv.Itoa3
namespace Go.Proofs.YtgjomknpjigkhaaGreatDoor
set_option maxRecDepth 100000
set_option maxHeartbeats 4000000
section
open Go.RowKit
def BuiAt (w:World) (base b:Nat) (p v:Value) (bs:List Value):Prop:=base≤b∧w.heap[b]?=some (.cells #[p,v] 122 (0,0))∧w.ownsRow base 5 1 v bs.length bs∧v.ownBlock≠some b
def BuiP (p:Value) (b:Nat):Prop:=p=.pointer none∨p=.pointer (some ⟨b,0,none⟩)
theorem info122:∃ j,Tryz.prog.info? 122=some j∧j.size=2:=Option.map_eq_some_iff.1 (show (Tryz.prog.info? 122).map (·.size)=some 2 by kernel_rfl)
theorem check139_used (b:Nat) (v:Value) (w:World) (h:w.heap[b]?=some (.cells #[.pointer (some ⟨b,0,none⟩),v] 122 (0,0))):Calls Tryz.prog 139 #[.pointer (some ⟨b,0,none⟩)] w fun e w'=>e=.returned (.tuple #[])∧w' = w:=by
 obtain ⟨j,hj,_⟩:=info122
 have c0:w.cell? ⟨b,0,none⟩=some (.pointer (some ⟨b,0,none⟩)):=by rw [Lib.cell_of_heap h];rfl
 go_enter Tryz.func139,Tryz.ntmps139
 go_wp2
 rw [Lib.run_neq_ptr_same w _ Tryz.underlying119 hj]
 go_wp2
 go_end0
 exact ⟨rfl,rfl⟩
theorem check139_fresh (b:Nat) (v:Value) (w:World) (h:w.heap[b]?=some (.cells #[.pointer none,v] 122 (0,0))):Calls Tryz.prog 139 #[.pointer (some ⟨b,0,none⟩)] w fun e w'=>e=.returned (.tuple #[])∧w' = w.setCell ⟨b,0,none⟩ (.pointer (some ⟨b,0,none⟩)):=by
 obtain ⟨j,hj,hjs⟩:=info122
 have c0:w.cell? ⟨b,0,none⟩=some (.pointer none):=by rw [Lib.cell_of_heap h];rfl
 have hfz:w.frozen? ⟨b,0,none⟩=false:=Lib.frozen_of_heap h 0
 have hsh:w.shape? b=some (122,2):=by simp [World.shape?,h]
 go_enter Tryz.func139,Tryz.ntmps139
 go_wp2
 rw [Lib.run_to_unsafe w ⟨b,0,none⟩ Tryz.underlying119 Tryz.underlying282 hj (by rw [hjs];decide) hsh (Nat.zero_lt_succ 1)]
 simp only [Result.andThen]
 rw [Oper.upon_value]
 go_wp2
 rw [run_callFunc_extern Tryz.func205 (by kernel_rfl) (by kernel_rfl) (by kernel_rfl) (e:=Extern.AbiNoEscape.same) (by kernel_rfl)]
 rw [Lib.run_noEscape]
 simp only [Result.andThen]
 rw [Oper.upon_value]
 go_wp2
 rw [Lib.run_from_unsafe w ⟨b,0,none⟩ Tryz.underlying282 Tryz.underlying119 hj hsh (by kernel_rfl)]
 simp only [Result.andThen]
 rw [Oper.upon_value]
 go_wp2
 go_end0
 exact ⟨rfl,rfl⟩
theorem check_calls {w:World} {base b:Nat} {p v:Value} {bs:List Value} (h:BuiAt w base b p v bs) (hp:BuiP p b):Calls Tryz.prog 139 #[.pointer (some ⟨b,0,none⟩)] w fun e w'=>e=.returned (.tuple #[])∧BuiAt w' base b (.pointer (some ⟨b,0,none⟩)) v bs∧Keeps [b] w w':=by
 rcases hp with rfl | rfl
 ·refine (check139_fresh b v w h.2.1).mono ?_
  rintro e w' ⟨rfl,rfl⟩
  have k:=Keeps.setCell w ⟨b,0,none⟩ (.pointer (some ⟨b,0,none⟩))
  refine ⟨rfl,⟨h.1,?_,ownsRow_kept h.2.2.1 k (fun i hi=>by
   simp only [List.mem_singleton]
   intro e
   subst e
   exact h.2.2.2 hi),h.2.2.2⟩,k⟩
  have:=h.2.1
  simp [World.setCell,Array.getElem?_modify,this]
 ·refine (check139_used b v w h.2.1).mono ?_
  rintro e w' ⟨rfl,rfl⟩
  exact ⟨rfl,h,Keeps.refl _ _⟩
theorem BuiAt.put {w:World} {base b:Nat} {p v v':Value} {bs':List Value} (hB:base≤b) (hb:w.heap[b]?=some (.cells #[p,v] 122 (0,0))) (hown:w.ownsRow base 5 1 v' bs'.length bs'):BuiAt (w.setCell ⟨b,1,none⟩ v') base b p v' bs':=by
 have hne:=Lib.ownBlock_ne hown hb (by decide)
 have k:=Keeps.setCell w ⟨b,1,none⟩ v'
 refine ⟨hB,?_,ownsRow_kept hown k (fun i hi=>by
   simp only [List.mem_singleton]
   intro e
   subst e
   exact hne hi),hne⟩
 simp [World.setCell,Array.getElem?_modify,hb]
theorem heap_lt {w:World} {b:Nat} {o:Obj} (h:w.heap[b]?=some o):b<w.heap.size:=by
 rcases Nat.lt_or_ge b w.heap.size with h' | h'
 ·exact h'
 ·simp [Array.getElem?_eq_none h'] at h
theorem info5:∃ i,Tryz.prog.info? 5=some i∧i.zero=some (.int .u8 0)∧i.size=1∧i.bytes=1:=info_parts (by kernel_rfl)
theorem writeStr_calls {w:World} {base b:Nat} {p v:Value} {bs:List Value} (h:BuiAt w base b p v bs) (hp:BuiP p b) (s:ByteArray) (hl:bs.length+s.size≤140737488355328) (hbase:base≤w.heap.size):Calls Tryz.prog 68 #[.pointer (some ⟨b,0,none⟩),.string s] w fun e w'=>e=.returned (.tuple #[.int .i64 s.size,.nilIface])∧(∃ v',BuiAt w' base b (.pointer (some ⟨b,0,none⟩)) v' (bs++Lib.strCells s))∧Keeps (b :: ownL v) w w':=by
 obtain ⟨i0,hi,hz0,hz1,hz2⟩:=info5
 have hc:=hide (check_calls h hp)
 go_enter Tryz.func68,Tryz.ntmps68
 go_wp2_with fail
 refine hc.out.mono ?_
 rintro e w1 ⟨rfl,h1,k1⟩
 obtain ⟨hB,hbk,hown,hne⟩:=h1
 obtain ⟨ay,cy,hy⟩:=ownE_len hown
 subst hy
 have hs1:=k1.size
 have c0:w1.cell? ⟨b,0,none⟩=some (.pointer (some ⟨b,0,none⟩)):=by rw [Lib.cell_of_heap hbk];rfl
 have c1:w1.cell? ⟨b,1,none⟩=some (.slice ay bs.length cy):=by rw [Lib.cell_of_heap hbk];rfl
 go_wp2_with (at_builtin;refine Lib.wpList_append_own_string _ rfl _ _ 120 9 rfl base 5 i0 Tryz.underlying120 Tryz.underlying9 hi hz0 hz1 hz2 _ _ _ rfl hown s rfl (by unfold maxLen;omega) (by omega) (by omega) ?_)
 intro v' w2 hown' hgrow _
 have hlt:=heap_lt hbk
 have k2:=grownBy_keeps' hgrow (ownL (.slice ay bs.length cy)) (fun r e=>.inl (by simp [ownL,e]))
 have hb2:w2.heap[b]?=some (.cells #[.pointer (some ⟨b,0,none⟩),.slice ay bs.length cy] 122 (0,0)):=by
  rw [hgrow.block b hlt (fun e=>hne e.symm)]
  exact hbk
 have d1:w2.cell? ⟨b,1,none⟩=some (.slice ay bs.length cy):=by rw [Lib.cell_of_heap hb2];rfl
 have f1:w2.frozen? ⟨b,1,none⟩=false:=Lib.frozen_of_heap hb2 1
 have d0:w2.cell? ⟨b,0,none⟩=some (.pointer (some ⟨b,0,none⟩)):=by rw [Lib.cell_of_heap hb2];rfl
 obtain ⟨az,cz,hz⟩:=ownE_len hown'
 subst hz
 have hfin:=hide (BuiAt.put hB hb2 (bs':=bs++Lib.strCells s) (v':=.slice az (bs.length+s.size) cz) (by simpa [Lib.strCells_length] using hown'))
 have hK:Hid (Keeps (b :: ownL (.slice ay bs.length cy)) w (w2.setCell ⟨b,1,none⟩ (.slice az (bs.length+s.size) cz))):=hide (((k1.mono (by simp)).trans (k2.mono (fun i hi=>List.mem_cons_of_mem _ hi))).trans ((Keeps.setCell w2 ⟨b,1,none⟩ _).mono (by simp)))
 clear k1 k2 hgrow hown' hown hbk hb2
 go_wp2_with fail
 go_ret2
 exact ⟨rfl,⟨_,hfin.out⟩,hK.out⟩
theorem writeByte_calls {w:World} {base b:Nat} {p v:Value} {bs:List Value} (h:BuiAt w base b p v bs) (hp:BuiP p b) (c:Int) (hl:bs.length+1≤140737488355328) (hbase:base≤w.heap.size):Calls Tryz.prog 67 #[.pointer (some ⟨b,0,none⟩),.int .u8 c] w fun e w'=>e=.returned .nilIface∧(∃ v',BuiAt w' base b (.pointer (some ⟨b,0,none⟩)) v' (bs++[.int .u8 c]))∧Keeps (b :: ownL v) w w':=by
 obtain ⟨i0,hi,hz0,hz1,hz2⟩:=info5
 have hc:=hide (check_calls h hp)
 go_enter Tryz.func67,Tryz.ntmps67
 go_wp2_with fail
 refine hc.out.mono ?_
 rintro e w1 ⟨rfl,h1,k1⟩
 obtain ⟨hB,hbk,hown,hne⟩:=h1
 obtain ⟨ay,cy,hy⟩:=ownE_len hown
 subst hy
 have hs1:=k1.size
 have c0:w1.cell? ⟨b,0,none⟩=some (.pointer (some ⟨b,0,none⟩)):=by rw [Lib.cell_of_heap hbk];rfl
 have c1:w1.cell? ⟨b,1,none⟩=some (.slice ay bs.length cy):=by rw [Lib.cell_of_heap hbk];rfl
 have kA:=Keeps.alloc [] w1 (.cells #[.int .u8 c] 5)
 have ownA:=ownsRow_kept hown kA (by simp)
 have hone:∀ j u,([.int .u8 c]:List Value)[j]?=some u→(w1.alloc (.cells #[.int .u8 c] 5)).cell? ((⟨w1.heap.size,0,none⟩:Addr).add j)=some u:=by
  intro j u hj
  match j,hj with
  | 0,hj=>simp at hj;subst hj;simp [Addr.add]
 have hszA:base≤(w1.alloc (.cells #[.int .u8 c] 5)).heap.size:=by rw [sizeE_alloc];omega
 go_wp2_with (at_builtin;refine wpList_append_own _ rfl _ _ 120 rfl base 5 i0 (.int .u8 0) 1 1 Tryz.underlying120 hi hz0 hz1 hz2 rfl (by decide) _ _ _ rfl ownA ⟨w1.heap.size,0,none⟩ 1 1 [.int .u8 c] rfl rfl hone (by simp [Value.oneCell']) (by unfold maxLen;omega) (by omega) hszA ?_)
 intro v' w2 hown' hgrow _
 have hlt:=heap_lt hbk
 have k2:=grownBy_keeps' hgrow (ownL (.slice ay bs.length cy)) (fun r e=>.inl (by simp [ownL,e]))
 have hb2:w2.heap[b]?=some (.cells #[.pointer (some ⟨b,0,none⟩),.slice ay bs.length cy] 122 (0,0)):=by
  rw [hgrow.block b (by rw [sizeE_alloc];omega) (fun e=>hne e.symm),kA.block b hlt (by simp)]
  exact hbk
 have d1:w2.cell? ⟨b,1,none⟩=some (.slice ay bs.length cy):=by rw [Lib.cell_of_heap hb2];rfl
 have f1:w2.frozen? ⟨b,1,none⟩=false:=Lib.frozen_of_heap hb2 1
 have d0:w2.cell? ⟨b,0,none⟩=some (.pointer (some ⟨b,0,none⟩)):=by rw [Lib.cell_of_heap hb2];rfl
 obtain ⟨az,cz,hz⟩:=ownE_len hown'
 subst hz
 have hfin:=hide (BuiAt.put hB hb2 (bs':=bs++[.int .u8 c]) (v':=.slice az (bs.length+1) cz) (by simpa using hown'))
 have hK:Hid (Keeps (b :: ownL (.slice ay bs.length cy)) w (w2.setCell ⟨b,1,none⟩ (.slice az (bs.length+1) cz))):=hide ((((k1.mono (by simp)).trans (kA.mono (by simp))).trans (k2.mono (fun i hi=>List.mem_cons_of_mem _ hi))).trans ((Keeps.setCell w2 ⟨b,1,none⟩ _).mono (by simp)))
 clear k1 k2 hgrow hown' hown hbk hb2 kA ownA hone
 go_wp2_with fail
 go_ret
 exact ⟨rfl,⟨_,hfin.out⟩,hK.out⟩
end
section
open Go.RowKit Go.Shelf
def lays169_ren:Go.Shelf.Ren:=⟨fun | 169=>70 | n=>n,fun | 70=>119 | 9=>9 | 0=>0 | 72=>122 | 37=>120 | 127=>208 | 3=>3 | 5=>5 | n=>n,fun | n=>n⟩
theorem lays169:Go.Proofs.Lays.n169 Tryz.prog lays169_ren:={
 mixed:=by kernel_rfl
 f169:=Tryz.func70.trans (congrArg some (by kernel_rfl))
 t0:=Tryz.underlying0
 a0:=Tryz.isAgg0
 z0:=Tryz.sizeOf0
 v0:=Tryz.zeroValue0
 t3:=Tryz.underlying3
 a3:=Tryz.isAgg3
 z3:=Tryz.sizeOf3
 v3:=Tryz.zeroValue3
 t9:=Tryz.underlying9
 a9:=Tryz.isAgg9
 z9:=Tryz.sizeOf9
 v9:=Tryz.zeroValue9
 t37:=Tryz.underlying120
 a37:=Tryz.isAgg120
 z37:=Tryz.sizeOf120
 v37:=Tryz.zeroValue120
 t70:=Tryz.underlying119
 a70:=Tryz.isAgg119
 z70:=Tryz.sizeOf119
 v70:=Tryz.zeroValue119
 t72:=Tryz.underlying122
 a72:=Tryz.isAgg122
 z72:=Tryz.sizeOf122
 v72:=Tryz.zeroValue122
 t127:=Tryz.underlying208
 a127:=Tryz.isAgg208
 z127:=Tryz.sizeOf208
 v127:=Tryz.zeroValue208 }
theorem Builder_Extra_169:Builder.Extra Tryz.prog lays169_ren:={
 sizeBuilder:=by kernel_rfl
 liesBuilder:=by kernel_rfl
 t5:=Tryz.underlying5
 a5:=Tryz.isAgg5
 z5:=Tryz.sizeOf5
 v5:=Tryz.zeroValue5
 infoByte:=by kernel_rfl
 cellsByte:=by kernel_rfl
 sizeByte:=by kernel_rfl
 neB5:=by decide }
def lays171_ren:Go.Shelf.Ren:=⟨fun | 171=>31 | 243=>52 | 246=>90 | 283=>155 | 284=>156 | 285=>157 | 286=>158 | 129=>224 | 317=>223 | 318=>225 | 319=>226 | 320=>227 | 337=>266 | 338=>267 | n=>n,fun | 3=>3 | 9=>9 | 2=>2 | 4=>4 | 171=>229 | 0=>0 | 53=>230 | 37=>120 | 5=>5 | 173=>233 | 212=>299 | 51=>300 | 20=>20 | 213=>301 | 46=>226 | 232=>357 | 233=>358 | n=>n,fun | 17=>0 | 18=>1 | 19=>2 | n=>n⟩
theorem lays171:Go.Proofs.Lays.n171 Tryz.prog lays171_ren:={
 mixed:=by kernel_rfl
 f129:=Tryz.func224.trans (congrArg some (by kernel_rfl))
 f171:=Tryz.func31.trans (congrArg some (by kernel_rfl))
 f243:=Tryz.func52.trans (congrArg some (by kernel_rfl))
 f246:=Tryz.func90.trans (congrArg some (by kernel_rfl))
 f283:=Tryz.func155.trans (congrArg some (by kernel_rfl))
 f284:=Tryz.func156.trans (congrArg some (by kernel_rfl))
 f285:=Tryz.func157.trans (congrArg some (by kernel_rfl))
 f286:=Tryz.func158.trans (congrArg some (by kernel_rfl))
 f317:=Tryz.func223.trans (congrArg some (by kernel_rfl))
 f318:=Tryz.func225.trans (congrArg some (by kernel_rfl))
 f319:=Tryz.func226.trans (congrArg some (by kernel_rfl))
 f320:=Tryz.func227.trans (congrArg some (by kernel_rfl))
 f337:=Tryz.func266.trans (congrArg some (by kernel_rfl))
 f338:=Tryz.func267.trans (congrArg some (by kernel_rfl))
 t0:=Tryz.underlying0
 a0:=Tryz.isAgg0
 z0:=Tryz.sizeOf0
 v0:=Tryz.zeroValue0
 t2:=Tryz.underlying2
 a2:=Tryz.isAgg2
 z2:=Tryz.sizeOf2
 v2:=Tryz.zeroValue2
 t3:=Tryz.underlying3
 a3:=Tryz.isAgg3
 z3:=Tryz.sizeOf3
 v3:=Tryz.zeroValue3
 t4:=Tryz.underlying4
 a4:=Tryz.isAgg4
 z4:=Tryz.sizeOf4
 v4:=Tryz.zeroValue4
 t5:=Tryz.underlying5
 a5:=Tryz.isAgg5
 z5:=Tryz.sizeOf5
 v5:=Tryz.zeroValue5
 t9:=Tryz.underlying9
 a9:=Tryz.isAgg9
 z9:=Tryz.sizeOf9
 v9:=Tryz.zeroValue9
 t20:=Tryz.underlying20
 a20:=Tryz.isAgg20
 z20:=Tryz.sizeOf20
 v20:=Tryz.zeroValue20
 t37:=Tryz.underlying120
 a37:=Tryz.isAgg120
 z37:=Tryz.sizeOf120
 v37:=Tryz.zeroValue120
 t46:=Tryz.underlying226
 a46:=Tryz.isAgg226
 z46:=Tryz.sizeOf226
 v46:=Tryz.zeroValue226
 t51:=Tryz.underlying300
 a51:=Tryz.isAgg300
 z51:=Tryz.sizeOf300
 v51:=Tryz.zeroValue300
 t53:=Tryz.underlying230
 a53:=Tryz.isAgg230
 z53:=Tryz.sizeOf230
 v53:=Tryz.zeroValue230
 t171:=Tryz.underlying229
 a171:=Tryz.isAgg229
 z171:=Tryz.sizeOf229
 v171:=Tryz.zeroValue229
 t173:=Tryz.underlying233
 a173:=Tryz.isAgg233
 z173:=Tryz.sizeOf233
 v173:=Tryz.zeroValue233
 t212:=Tryz.underlying299
 a212:=Tryz.isAgg299
 z212:=Tryz.sizeOf299
 v212:=Tryz.zeroValue299
 t213:=Tryz.underlying301
 a213:=Tryz.isAgg301
 z213:=Tryz.sizeOf301
 t232:=Tryz.underlying357
 a232:=Tryz.isAgg357
 z232:=Tryz.sizeOf357
 v232:=Tryz.zeroValue357
 t233:=Tryz.underlying358
 a233:=Tryz.isAgg358
 z233:=Tryz.sizeOf358
 v233:=Tryz.zeroValue358
 g17:=by kernel_rfl
 g18:=by kernel_rfl
 g19:=by kernel_rfl }
theorem bytesOut (B b:Nat) (l:List UInt8) (w:World) (h:Lib.IsBuilder 122 5 B b (Lib.byteCells l) w) (hBw:B≤w.heap.size):Calls Tryz.prog 70 #[.pointer (some ⟨b,0,none⟩)] w fun e w'=>e=.returned (.string ⟨l.toArray⟩)∧Go.RowKit.Below B w w':=Any.Builder_String_any lays169 Builder_Extra_169 B b l w h hBw
theorem itoaS (i:Nat) (hi:i<100) (w:World):Calls Tryz.prog 31 #[.int .i64 i] w fun e w'=>e=.returned (.string ⟨(Lib.decDigits i).toArray⟩)∧w' = w:=Any.strconv_Itoa_small lays171 i hi w
theorem dec_digits (i:Nat) (hi:i<100):(⟨(Lib.decDigits i).toArray⟩:ByteArray)=decG i:=by
 unfold decG
 rw [Lib.decDigits]
 by_cases h:i<10
 ·rw [dif_pos h,if_neg (by omega)]
  rw [show (48+(i:Int) % 10).toNat.toUInt8=UInt8.ofNat (48+i) by rw [show (48+(i:Int) % 10).toNat=48+i by omega]]
 ·rw [dif_neg h,if_pos (by omega),Lib.decDigits,dif_pos (by omega)]
  rw [show (48+(i:Int) % 10).toNat.toUInt8=UInt8.ofNat (48+i % 10) by rw [show (48+(i:Int) % 10).toNat=48+i % 10 by omega]]
  rw [show (48+(i:Int) / 10).toNat.toUInt8=UInt8.ofNat (48+i / 10) by rw [show (48+(i:Int) / 10).toNat=48+i / 10 by omega]]
  rfl
theorem itoa_calls (n:Int) (h0:0≤n) (h1:n<100) (w:World):Calls Tryz.prog 31 #[.int .i64 n] w fun e w'=>e=.returned (.string (decG n))∧w' = w:=by
 obtain ⟨i,rfl⟩:=Int.eq_ofNat_of_zero_le h0
 have hi:i<100:=by omega
 have:=itoaS i hi w
 rw [dec_digits i hi] at this
 exact this
theorem printed_calls {w:World} (t:Tn) (hw:WfG t.g∨t.g=.fin):Calls Tryz.prog 69 #[tokV t] w fun e w'=>e=.returned (.string (prt t.g))∧Keeps [] w w':=by
 have kA:=Keeps.alloc [] w (.cells #[.string (kindOf t.g),.string (txt t.g),.int .i64 t.line] 129)
 cases hg:t.g with
 | int s=>
  rw [hg] at hw kA
  have hw':WfG t.g:=by
   rw [hg]
   rcases hw with h | h
   ·exact h
   ·cases h
  have hval:=hide (fun (w:World)=>value_calls (w:=w) t s hg hw')
  rw [hg] at hw'
  obtain ⟨hd,h1,h2⟩:=hw'
  have hr:=valTo_range hd (Nat.le_refl _) h2
  have hit:=hide (fun (w:World)=>itoa_calls (valTo s s.size) hr.1 hr.2 w)
  have hV:valTo s s.size=numOf t.g:=by rw [hg];rfl
  have htv:tokV t=.agg #[.string ⟨#[73,78,84]⟩,.string s,.int .i64 t.line]:=by unfold tokV;rw [hg];rfl
  show Calls _ _ _ _ fun e w'=>e=.returned (.string (decG (valTo s s.size)))∧Keeps [] w w'
  rw [hV] at hit ⊢
  rw [htv] at hval ⊢
  have kA':Keeps [] w (w.alloc (.cells #[.string ⟨#[73,78,84]⟩,.string s,.int .i64 t.line] 129)):=kA
  have kB:=Keeps.alloc [] (w.alloc (.cells #[.string ⟨#[73,78,84]⟩,.string s,.int .i64 t.line] 129)) (.cells #[.string (kindOf t.g),.string (txt t.g),.int .i64 t.line] 129)
  have kC:=hide (kA'.trans kB)
  generalize numOf t.g=N at *
  clear kA kA' kB hV hr hw hd h1 h2 htv
  go_enter Tryz.func69,Tryz.ntmps69
  go_wp2_with fail
  refine (hval.out _).mono ?_
  rintro e w1 ⟨rfl,rfl⟩
  go_wp2_with fail
  refine (hit.out _).mono ?_
  rintro e w1 ⟨rfl,rfl⟩
  go_wp2_with fail
  go_ret
  exact ⟨rfl,by rw [←hg];exact kC.out⟩
 | _=>
  rw [hg] at kA
  unfold tokV
  rw [hg]
  simp only [kindOf,txt,strName,strVar] at kA ⊢
  go_enter Tryz.func69,Tryz.ntmps69
  go_wp2_with fail
  go_ret
  exact ⟨by first | rfl | (congr 2;done),kA⟩
end
section
open Go.RowKit
theorem BuiAt.keeps {w w':World} {base b:Nat} {p v:Value} {bs:List Value} {T:List Nat} (h:BuiAt w base b p v bs) (k:Keeps T w w') (hT:∀ j∈T,j≠b∧j∉ownL v):BuiAt w' base b p v bs:=
 ⟨h.1,by rw [k.block b (heap_lt h.2.1) (fun hb=>(hT b hb).1 rfl)];exact h.2.1,ownsRow_kept h.2.2.1 k (fun i hi hiT=>(hT i hiT).2 (by simp [ownL,hi])),h.2.2.2⟩
theorem BuiAt.not {w:World} {base b:Nat} {p v:Value} {bs:List Value} (h:BuiAt w base b p v bs) {n:Nat} {cs:Array Value} {T:TypeId} {fr:Nat×Nat} (hn:w.heap[n]?=some (.cells cs T fr)) (hT:T≠5) (hb:n≠b):n∉b :: ownL v:=by
 intro hm
 rcases List.mem_cons.1 hm with e | e
 ·exact hb e
 ·exact Lib.ownBlock_ne h.2.2.1 hn hT (by simpa [ownL] using e)
theorem BuiAt.new (w:World):BuiAt (w.alloc (.cells #[.pointer none,.slice none 0 0] 122)) w.heap.size w.heap.size (.pointer none) (.slice none 0 0) []:=
 ⟨Nat.le_refl _,heap_alloc_new w _,World.ownsRow_nil ..,by simp [Value.ownBlock]⟩
theorem BuiAt.own {w:World} {base b:Nat} {p v:Value} {bs:List Value} (h:BuiAt w base b p v bs):∀ j∈b :: ownL v,base≤j:=by
 intro j hj
 rcases List.mem_cons.1 hj with rfl | e
 ·exact h.1
 ·exact (ownL_at h.2.2.1 j e).1
theorem strCells_append (a b:ByteArray):Lib.strCells (a++b)=Lib.strCells a++Lib.strCells b:=by
 unfold Lib.strCells
 rw [ByteArray.data_append,Array.toList_append,List.map_append]
theorem strCells_blank:Lib.strCells blank=[.int .u8 32]:=rfl
theorem prt_size {g:Sg} (h:WfG g∨g=.fin):(prt g).size≤8:=by
 cases g with
 | name s=>
  have:WfG (.name s):=by rcases h with h | h;exact h;cases h
  have h2:=this.2.2
  show s.size≤8
  omega
 | var s=>
  have:WfG (.var s):=by rcases h with h | h;exact h;cases h
  have h2:=this.2.2
  show s.size≤8
  omega
 | int s=>
  show (decG _).size≤8
  unfold decG
  split <;> exact Nat.le_of_ble_eq_true rfl
 | _=>decide
theorem prog1_one {last:Bool} {t:Tn} (h:(isIntG t.g && last)=true):prog1 last t=blank++prt t.g:=by unfold prog1;rw [if_pos h]
theorem prog1_two {last:Bool} {t:Tn} (h:(isIntG t.g && last)=false):prog1 last t=prt t.g:=by unfold prog1;rw [if_neg (by rw [h];decide)]
theorem print36_calls {w:World} {base p:Nat} {rv cl:Value} {av:Option Addr} {cc:Nat} (toks:List Tn) (hp:CellsAt w p #[rv,cl,.slice av toks.length cc]) (hrow:w.ownsRow base 129 3 (.slice av toks.length cc) toks.length (tokCs toks)) (hl:toks.length≤1000000) (hw:∀ t∈toks,WfG t.g∨t.g=.fin):Calls Tryz.prog 36 #[.pointer (some ⟨p,0,none⟩)] w fun e w'=>e=.returned (.string (progOut false toks))∧Keeps [] w w':=by
 have kA:=Keeps.alloc [] w (.cells #[.pointer none,.slice none 0 0] 122)
 have hB0:=hide (BuiAt.new w)
 have hpl:=hp.lt
 have c2:=(hp.keeps kA (by simp)).cell 2
 have Hrow:=hide hrow
 have Hw:=hide hw
 generalize hR:progOut false toks=R
 have HR:=hide hR
 clear hR hrow hw hp
 go_enter Tryz.func36,Tryz.ntmps36
 go_wp2_with fail
 go_loopw [4,12] (fun y x wr=>∃ (i:Nat) (k:ByteArray) (last:Bool) (out:ByteArray) (q v:Value),y=.string k∧x=.int .i64 i∧i≤toks.length∧(k.toList == [78,65,77,69])=last∧out.size≤9 * i∧BuiAt wr w.heap.size w.heap.size q v (Lib.strCells out)∧BuiP q w.heap.size∧Keeps [] w wr∧out++progOut last (toks.drop i)=R) (fun _ x _=>toks.length - (intOf x).toNat)
 case atStart=>exact ⟨0,⟨#[]⟩,false,⟨#[]⟩,.pointer none,.slice none 0 0,rfl,rfl,by omega,by rw [show (⟨#[]⟩:ByteArray).toList=[] from lit_toList _];rfl,by decide,hB0.out,.inl rfl,kA,by rw [List.drop_zero,HR.out];rfl⟩
 case round=>
  obtain ⟨i,k,last,out,q,v,rfl,rfl,hil,hk,hos,hB,hq,kr,hres⟩:=hrel
  clear kA HR hB0 c2
  by_cases hlt:i<toks.length
  ·obtain ⟨t,ht⟩:∃ t,toks[i]?=some t:=⟨_,List.getElem?_eq_getElem hlt⟩
   have hdi:toks.drop i=t :: toks.drop (i+1):=by
    rw [List.drop_eq_getElem_cons hlt]
    congr 1
    rw [List.getElem?_eq_getElem hlt] at ht
    exact Option.some.inj ht
   have hres':(out++prog1 last t)++progOut (isNameG t.g) (toks.drop (i+1))=R:=by rw [←hres,hdi,ByteArray.append_assoc];rfl
   have hrr:=ownsRow_kept Hrow.out kr (by simp)
   obtain ⟨gt,hgt⟩:=ownE_pos hrr (by omega)
   subst hgt
   obtain ⟨tcs,ht1,ht2⟩:=rowPTok hrr
   obtain ⟨t0,t1,t2⟩:=ht2 i t ht
   rw [Nat.zero_add] at t0 t1 t2
   have c0:wr.cell? ⟨gt,i * 3,none⟩=some (.string (kindOf t.g)):=by rw [ht1.cell];exact t0
   have c1:wr.cell? ⟨gt,i * 3+1,none⟩=some (.string (txt t.g)):=by rw [ht1.cell];exact t1
   have c2:wr.cell? ⟨gt,i * 3+2,none⟩=some (.int .i64 t.line):=by rw [ht1.cell];exact t2
   have hgl:=ht1.lt
   have hiI:(i:Int)<toks.length:=by omega
   have htw:=Hw.out t (List.mem_of_getElem? ht)
   have hps:=prt_size htw
   have hpr:=hide (fun (w:World)=>printed_calls (w:=w) t htw)
   have kT:=Keeps.alloc [] wr (.cells #[.string (kindOf t.g),.string (txt t.g),.int .i64 t.line] 129)
   have hT:(wr.alloc (.cells #[.string (kindOf t.g),.string (txt t.g),.int .i64 t.line] 129)).heap[wr.heap.size]?=some (.cells #[.string (kindOf t.g),.string (txt t.g),.int .i64 t.line] 129 (0,0)):=heap_alloc_new wr _
   have hB1:=hB.keeps kT (by simp)
   have hszw:=kr.size
   have hbl:=heap_lt hB.2.1
   have hnb:wr.heap.size≠w.heap.size:=by omega
   have k1:=kr.trans kT
   have qN:((kindOf t.g).toList == [78,65,77,69])=isNameG t.g:=by
    have:=kp_name t.g
    rw [show (⟨#[78,65,77,69]⟩:ByteArray).toList=[78,65,77,69] from lit_toList _] at this
    exact this
   have qI:((kindOf t.g).toList == [73,78,84])=isIntG t.g:=by
    have:=kp_int t.g
    rw [show (⟨#[73,78,84]⟩:ByteArray).toList=[73,78,84] from lit_toList _] at this
    exact this
   clear t0 t1 t2 ht1 ht2 hrr hdi hres ht kr kT hB
   have Hres:=hide hres'
   clear hres'
   cases hI:isIntG t.g with
   | false=>
    rw [hI] at qI
    have hpg:=prog1_two (last:=last) (t:=t) (by rw [hI];rfl)
    clear hI hk
    go_wp2_with fail
    have hB3:=hB1
    have hT3:=hT
    have hK3:=k1
    have d0:(wr.alloc (.cells #[.string (kindOf t.g),.string (txt t.g),.int .i64 t.line] 129)).cell? ⟨wr.heap.size,0,none⟩=some (.string (kindOf t.g)):=by rw [Lib.cell_of_heap hT3];rfl
    have d1:(wr.alloc (.cells #[.string (kindOf t.g),.string (txt t.g),.int .i64 t.line] 129)).cell? ⟨wr.heap.size,1,none⟩=some (.string (txt t.g)):=by rw [Lib.cell_of_heap hT3];rfl
    have d2:(wr.alloc (.cells #[.string (kindOf t.g),.string (txt t.g),.int .i64 t.line] 129)).cell? ⟨wr.heap.size,2,none⟩=some (.int .i64 t.line):=by rw [Lib.cell_of_heap hT3];rfl
    clear hB1 hT k1 c0 c1 c2
    go_wp2_with fail
    refine (hpr.out _).mono ?_
    rintro e w4 ⟨rfl,k4⟩
    have hT4:w4.heap[wr.heap.size]?=some (.cells #[.string (kindOf t.g),.string (txt t.g),.int .i64 t.line] 129 (0,0)):=by rw [k4.block _ (heap_lt hT3) (by simp)];exact hT3
    have hB4:=hB3.keeps k4 (by simp)
    have hK4:=hK3.trans k4
    have hws:=hide (writeStr_calls hB4 hq (prt t.g) (by rw [Lib.strCells_length];omega) hK4.size)
    clear d0 d1 d2
    go_wp2_with fail
    refine hws.out.mono ?_
    rintro e w5 ⟨rfl,⟨v5,hB5⟩,k5⟩
    have hT5:w5.heap[wr.heap.size]?=some (.cells #[.string (kindOf t.g),.string (txt t.g),.int .i64 t.line] 129 (0,0)):=by rw [k5.block _ (heap_lt hT4) (hB4.not hT4 (by decide) hnb)];exact hT4
    have hK5:=hK4.trans_new k5 (fun j hj=>.inr (hB4.own j hj))
    have d5:w5.cell? ⟨wr.heap.size,0,none⟩=some (.string (kindOf t.g)):=by rw [Lib.cell_of_heap hT5];rfl
    have HB5:=hide hB5
    have HqN:=hide qN
    have Hs:=hide hps
    clear hB5 hT5 hT4 hT3 hB4 hB3 qN hws k5 k4 hK4 hK3
    go_wp2_with fail
    go_roundw
    ·exact ⟨i+1,kindOf t.g,isNameG t.g,out++prog1 last t,_,v5,rfl,by simp,by omega,HqN.out,by have:=Hs.out;rw [hpg];simp only [ByteArray.size_append,ByteArray.size_append];omega,by rw [hpg];rw [strCells_append];exact HB5.out,.inr rfl,hK5,Hres.out⟩
    ·simp only [intOf];omega
   | true=>
    rw [hI] at qI
    cases hL:last with
    | false=>
     rw [hL] at hk
     have hpg:=prog1_two (last:=last) (t:=t) (by rw [hL,hI];rfl)
     clear hI
     go_wp2_with fail
     have hB3:=hB1
     have hT3:=hT
     have hK3:=k1
     have d0:(wr.alloc (.cells #[.string (kindOf t.g),.string (txt t.g),.int .i64 t.line] 129)).cell? ⟨wr.heap.size,0,none⟩=some (.string (kindOf t.g)):=by rw [Lib.cell_of_heap hT3];rfl
     have d1:(wr.alloc (.cells #[.string (kindOf t.g),.string (txt t.g),.int .i64 t.line] 129)).cell? ⟨wr.heap.size,1,none⟩=some (.string (txt t.g)):=by rw [Lib.cell_of_heap hT3];rfl
     have d2:(wr.alloc (.cells #[.string (kindOf t.g),.string (txt t.g),.int .i64 t.line] 129)).cell? ⟨wr.heap.size,2,none⟩=some (.int .i64 t.line):=by rw [Lib.cell_of_heap hT3];rfl
     clear hB1 hT k1 c0 c1 c2
     go_wp2_with fail
     refine (hpr.out _).mono ?_
     rintro e w4 ⟨rfl,k4⟩
     have hT4:w4.heap[wr.heap.size]?=some (.cells #[.string (kindOf t.g),.string (txt t.g),.int .i64 t.line] 129 (0,0)):=by rw [k4.block _ (heap_lt hT3) (by simp)];exact hT3
     have hB4:=hB3.keeps k4 (by simp)
     have hK4:=hK3.trans k4
     have hws:=hide (writeStr_calls hB4 hq (prt t.g) (by rw [Lib.strCells_length];omega) hK4.size)
     clear d0 d1 d2
     go_wp2_with fail
     refine hws.out.mono ?_
     rintro e w5 ⟨rfl,⟨v5,hB5⟩,k5⟩
     have hT5:w5.heap[wr.heap.size]?=some (.cells #[.string (kindOf t.g),.string (txt t.g),.int .i64 t.line] 129 (0,0)):=by rw [k5.block _ (heap_lt hT4) (hB4.not hT4 (by decide) hnb)];exact hT4
     have hK5:=hK4.trans_new k5 (fun j hj=>.inr (hB4.own j hj))
     have d5:w5.cell? ⟨wr.heap.size,0,none⟩=some (.string (kindOf t.g)):=by rw [Lib.cell_of_heap hT5];rfl
     have HB5:=hide hB5
     have HqN:=hide qN
     have Hs:=hide hps
     clear hB5 hT5 hT4 hT3 hB4 hB3 qN hws k5 k4 hK4 hK3
     go_wp2_with fail
     go_roundw
     ·exact ⟨i+1,kindOf t.g,isNameG t.g,out++prog1 last t,_,v5,rfl,by simp,by omega,HqN.out,by have:=Hs.out;rw [hpg];simp only [ByteArray.size_append,ByteArray.size_append];omega,by rw [hpg];rw [strCells_append];exact HB5.out,.inr rfl,hK5,Hres.out⟩
     ·simp only [intOf];omega
    | true=>
     rw [hL] at hk
     have hpg:=prog1_one (last:=last) (t:=t) (by rw [hL,hI];rfl)
     clear hI
     have hwb:=hide (writeByte_calls hB1 hq 32 (by rw [Lib.strCells_length];omega) k1.size)
     go_wp2_with fail
     refine hwb.out.mono ?_
     rintro e w3 ⟨rfl,⟨v3,hB3⟩,k3⟩
     have hT3:w3.heap[wr.heap.size]?=some (.cells #[.string (kindOf t.g),.string (txt t.g),.int .i64 t.line] 129 (0,0)):=by rw [k3.block _ (heap_lt hT) (hB1.not hT (by decide) hnb)];exact hT
     have hK3:=k1.trans_new k3 (fun j hj=>.inr (hB1.own j hj))
     have d0:w3.cell? ⟨wr.heap.size,0,none⟩=some (.string (kindOf t.g)):=by rw [Lib.cell_of_heap hT3];rfl
     have d1:w3.cell? ⟨wr.heap.size,1,none⟩=some (.string (txt t.g)):=by rw [Lib.cell_of_heap hT3];rfl
     have d2:w3.cell? ⟨wr.heap.size,2,none⟩=some (.int .i64 t.line):=by rw [Lib.cell_of_heap hT3];rfl
     clear hB1 hT k1 c0 c1 c2 hwb k3
     go_wp2_with fail
     refine (hpr.out _).mono ?_
     rintro e w4 ⟨rfl,k4⟩
     have hT4:w4.heap[wr.heap.size]?=some (.cells #[.string (kindOf t.g),.string (txt t.g),.int .i64 t.line] 129 (0,0)):=by rw [k4.block _ (heap_lt hT3) (by simp)];exact hT3
     have hB4:=hB3.keeps k4 (by simp)
     have hK4:=hK3.trans k4
     have hws:=hide (writeStr_calls hB4 (.inr rfl) (prt t.g) (by rw [List.length_append,Lib.strCells_length,List.length_singleton];omega) hK4.size)
     clear d0 d1 d2
     go_wp2_with fail
     refine hws.out.mono ?_
     rintro e w5 ⟨rfl,⟨v5,hB5⟩,k5⟩
     have hT5:w5.heap[wr.heap.size]?=some (.cells #[.string (kindOf t.g),.string (txt t.g),.int .i64 t.line] 129 (0,0)):=by rw [k5.block _ (heap_lt hT4) (hB4.not hT4 (by decide) hnb)];exact hT4
     have hK5:=hK4.trans_new k5 (fun j hj=>.inr (hB4.own j hj))
     have d5:w5.cell? ⟨wr.heap.size,0,none⟩=some (.string (kindOf t.g)):=by rw [Lib.cell_of_heap hT5];rfl
     have HB5:=hide hB5
     have HqN:=hide qN
     have Hs:=hide hps
     clear hB5 hT5 hT4 hT3 hB4 hB3 qN hws k5 k4 hK4 hK3
     go_wp2_with fail
     go_roundw
     ·exact ⟨i+1,kindOf t.g,isNameG t.g,out++prog1 last t,_,v5,rfl,by simp,by omega,HqN.out,by have:=Hs.out;rw [hpg];simp only [ByteArray.size_append,show blank.size=1 from rfl];omega,by rw [hpg];simp only [strCells_append,strCells_blank,←List.append_assoc];exact HB5.out,.inr rfl,hK5,Hres.out⟩
     ·simp only [intOf];omega
  ·have hiI:¬ (i:Int)<toks.length:=by omega
   have hdz:toks.drop i=[]:=List.drop_eq_nil_of_le (by omega)
   rw [hdz] at hres
   have Hres:Hid (out=R):=hide (by rw [←hres];simp [progOut])
   have hbo:=hide (bytesOut w.heap.size w.heap.size out.data.toList wr (by
    rw [←Lib.strCells_eq]
    rcases hq with rfl | rfl
    ·exact .inl ⟨hB.1,v,hB.2⟩
    ·exact .inr ⟨hB.1,v,hB.2⟩) kr.size)
   clear hres hdz hk hB
   go_wp2_with fail
   refine hbo.out.mono ?_
   rintro e w2 ⟨rfl,hb2⟩
   have k2:Keeps [] w w2:=⟨hb2.os.trans kr.os,hb2.tape.trans kr.tape,hb2.output.trans kr.output,Nat.le_trans kr.size hb2.size,fun j hj _=>(hb2.block j hj).trans (kr.block j hj (by simp))⟩
   go_wp2_with fail
   go_ret
   exact ⟨by rw [←Hres.out];simp,k2⟩
end
end Go.Proofs.YtgjomknpjigkhaaGreatDoor

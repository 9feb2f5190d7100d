import Derived.Test.YtjoblhlkfmeckaaGreatDoorQ10
import Derived.Lib.AppendStr
import Derived.Maps.AppendAt
set_option maxHeartbeats 4000000
set_option maxRecDepth 8000
set_option linter.unusedVariables false
set_option linter.unusedSimpArgs false
open Option renaming none → od,some → lp
open Go.RowKit renaming Below → ug
open Go.Proofs.Tryz renaming prog → ly,ntmps186 → yg,ntmps184 → wi,func186 → pq,func184 → oe
open Go renaming World → qq,Value → tj,Calls → xi,Addr → zu,heap_setCell_other → cr,Ending → mj,bodyPost_ret → zg
open Bool renaming true → s7,false → vp
open Prod renaming fst → xo
open Go.World renaming setCell → vk,ownsRow_nil → vf
open Go.Lib renaming strCells → qv
open Go.Value renaming slice → cf,int → rl,string → pt,bool → gf,tuple → fh
open Go.Obj renaming cells → ye
open Go.IntKind renaming i64 → tz,u8 → dc
open Go.Ending renaming returned → pd
open Go.Proofs.Tryz Orch
theorem Z32{p q:Prop}(k:q)(h:Hd q->p:=by
 intro kz
 refine Gt (fun X=>X.heap[w.heap.size+1]? = some (.cells #[.int .i64 0,.string ⟨#[]⟩,.slice none 0 0] 164)/\Below w.heap.size w X) ⟨setRow_heap _ _ _ _ _ _ HH.out,Ci Cs.out (dD _) _⟩ ?_
 exact kz.1):p:=h ⟨k⟩
theorem Vma{p q:Prop}(k:q)(h:Hd q->p:=by
 intro kz
 refine Gt (fun X=>X.heap[w.heap.size+1]? = some (.cells #[.int .i64 n,.string s,.slice a m c] 164)/\Below w.heap.size w X/\X.heap.size=w1.heap.size/\∀b,b≠w.heap.size+1->X.heap[b]? = w1.heap[b]?) ⟨setRow_heap _ _ _ _ _ _ HH.out,Ci Cs.out (dD _) _,Ae,fun b hb=>setRow_other _ _ _ _ hb⟩ ?_
 exact kz.1):p:=h ⟨k⟩
theorem Oc6{p q:Prop}(k:q)(h:Hd q->p:=by
 intro kz
 obtain⟨n0,n1⟩:=Mo w (.cells #[.int .u8 sg,.int .i64 2,.int .i64 sz,.int .i64 lo,.int .i64 hi,.bool tx,.int .u8 fn,.slice pa pn pc] 196) (.cells #[.int .i64 0,.string ⟨#[]⟩,.slice none 0 0] 164)
 revert n0 n1
 exact kz.1):p:=h ⟨k⟩
theorem Rmi{p q:Prop}(k:q)(h:Hd q->p:=by
 intro kz
 obtain⟨c0,c1,c2⟩:=Ld 0 1 2 HQ
 have HBX:=Bc hbX
 have HSX:=Bc hsX
 have HKX:=Bc hkX
 revert c0 c1 c2 HBX HSX HKX
 exact kz.1):p:=h ⟨k⟩
theorem Nzm{p:Prop}(h:p:=by
 refine Vma ?_
 rintro X ⟨HQ,hbX,hsX,hkX⟩
 refine Rmi ?_;intro c0 c1 c2 HBX HSX HKX
 clear hbX hsX hkX HQ
 exact bodyPost_ret (v:=.tuple #[vv n s (.slice a m c),rv,.bool ok]) (by simp [results,Tryz.results186,go_sem,c0,c1,c2]) rfl ⟨⟨_,w1,_,rfl,HPV.out,HSZ.out,HSX.out,HKX.out⟩,HBX.out⟩):p:=h
theorem Iqv{p q:Prop}(k:q)(h:Hd q->p:=by
 intro kz
 have hbw:Below base w W:=hb0.trans (hbW.mono (aE Dx hb0.size))
 have hv':Er W (fun b=>b<base) (v.l.getD i zV).l (ex i):=by
  rw [I3 _ _ _ hi]
  exact hxs.congr (fun _ h'=>h') (fun b Es=>hbw.block b Es)
 revert hbw hv'
 exact kz.1):p:=h ⟨k⟩
theorem Bof{p q:Prop}(k:q)(h:Hd q->p:=by
 intro kz
 have HFIN:Hid (w.grownBy w3 ov.ownBlock):=(E2.trans (E2.from Cs.out (HOUT.out.below (by first|exact HB2R.out|exact HB2R.out.drew))) (⟨hg3,Or.inl rfl⟩:E2 _ w3 _ (Value.slice qa xr.length qc))).grown
 revert HFIN
 exact kz.1):p:=h ⟨k⟩
theorem Zqg{p q:Prop}(k:q)(h:Hd q->p:=by
 intro kz
 have HOVLT:Hid (∀g,ov.ownBlock=some g->base<=g/\g<w.heap.size):=fun g e=>Dy HO.out e
 have HLOW1:Hid (Below base w w1):=Cs.out.mono Dx
 have HLOW:Hid (Below base w wr):=HLOW1.out.trans (HOUT.out.low (aE Dx Cs.out.size) (fun g e=>(HOVLT.out g e).1))
 revert HOVLT HLOW1 HLOW
 exact kz.1):p:=h ⟨k⟩
theorem Hvf{p q:Prop}(k:q)(h:Hd q->p:=by
 intro kz
 have E1:Hid (Below base w (wr.alloc (.cells #[.int .i64 (el i).n,.string (el i).s,.slice xa xm xc] 164))):=HLOW.out.alloc (aE Dx HLOW.out.size) _
 have hnew:=Bc (heap_alloc_new wr (.cells #[.int .i64 (el i).n,.string (el i).s,.slice xa xm xc] 164))
 have MRA:Hid ((wr.alloc (.cells #[.int .i64 (el i).n,.string (el i).s,.slice xa xm xc] 164)).heap[w.heap.size]? = _):=(Below.heap_alloc _ _ _ hw1r).trans m0
 revert E1 hnew MRA
 exact kz.1):p:=h ⟨k⟩
theorem Jwg{p q:Prop}(k:q)(h:Hd q->p:=by
 intro kz
 have HR:Hid (TOT=none):=by
  show _=_
  rw [HGS.out,hfi]
 have HPUT':Hid (∀W0 W,Below base w W0->Below W0.heap.size W0 W->∀x,ppt i W0 x->W.ownsRow base 5 1 (.slice qa xr.length qc) xr.length (A0 xr)->Calls Tryz.prog 184 #[.slice qa xr.length qc,D7 (pl i) x,vv (el i).n (el i).s (.slice xa xm xc)] W fun e w'=>(∃a m c,e=.returned (.tuple #[.slice a m c,.bool false]))/\W.grownBy w' (Value.slice qa xr.length qc).ownBlock):=fun W0 W h1 h2 x h3 h4=>by
  exact Axb
 revert HR HPUT'
 exact kz.1):p:=h ⟨k⟩
theorem Yjk{p q:Prop}(k:q)(h:Hd q->p:=by
 intro kz
 have HPP:=Bc hpp
 have Fh:=Bc Fs
 have HB2R:Hid (Below wr.heap.size wr w2):=Below.trans (by first|exact Bh wr _|exact(Bh wr _).drew|exact(Bh wr _).drew.drew) (Fs.mono Ae)
 have k2:=(Fs.block _ (ltOf hnew.out)).trans hnew.out
 obtain⟨l0,l1,l2⟩:=Ld 0 1 2 k2
 revert HPP Fh HB2R k2 l0 l1 l2
 exact kz.1):p:=h ⟨k⟩
theorem Sh9{p q:Prop}(k:q)(h:Hd q->p:=by
 intro kz
 have HR:Hid (CQ f (ln - (i+1)) (i+1) o=TOT):=by
  show _=_
  rw [HGS.out,hfi]
 have hol:=HFI.out o hfi
 have HPUT':Hid (∀W0 W,Below base w W0->Below W0.heap.size W0 W->∀x,ppt i W0 x->W.ownsRow base 5 1 (.slice qa xr.length qc) xr.length (A0 xr)->Calls Tryz.prog 184 #[.slice qa xr.length qc,D7 (pl i) x,vv (el i).n (el i).s (.slice xa xm xc)] W fun e w'=>∃ov',e=.returned (.tuple #[ov',.bool true])/\w'.ownsRow base 5 1 ov' o.length (A0 o)/\E2 W w' (.slice qa xr.length qc) ov'):=fun W0 W h1 h2 x h3 h4=>by
  exact Axb
 revert HR hol HPUT'
 exact kz.1):p:=h ⟨k⟩
theorem Ikj{p:Prop}(h:p:=by
 split at h
 ·split at h
  ·cases h
  ·split at h
   ·injection h with h;subst h;assumption
   ·cases h
 ·cases h):p:=h
theorem Axb{p:Prop}(h:p:=by
 have:=HPUT.out W0 W h1 h2 i Cg x h3 _ xr hlenx (aE (aE Dx h1.size) h2.size) h4
 rw [hfi,HEX.out] at this
 exact this):p:=h
theorem Lmf{p:Prop}(h:p:=by
 have hie:i=ln:=Ab
 have HR:Hid (TOT=some xr):=by
  show _=_
  rw [←HG.out,hie,Nat.sub_self,CQ]
 have HIE:=Bc hie
 clear hie HG
 go_wp2
 go_ret2
 rw [HR.out]
 exact⟨_,Su (by rw [dS];simp;omega),HOR.out,E2.from Cs.out HOUT.out⟩):p:=h
theorem Uej{p:Prop}(h:p:=by
 obtain⟨g,cap,hla,hlc,hgb,hxs,Ee⟩:=hex i hi
 obtain⟨xa,xc,hxe⟩:=hxs.shape
 simp only [Value.slice.injEq] at hla
 obtain⟨rfl,_,rfl⟩:=hla
 rw [I3 _ _ _ hi]
 exact⟨g,xa,_,xc,rfl,aB hgb (aE Dx hb.size),hlc,hxe,(hb.cell (p:=⟨g,i * 3,none⟩) hgb).trans (Ee 0 _ rfl),(hb.cell (p:=⟨g,i * 3+1,none⟩) hgb).trans (Ee 1 _ rfl),(hb.cell (p:=⟨g,i * 3+2,none⟩) hgb).trans (Ee 2 _ rfl)⟩):p:=h
theorem Esm{p:Prop}(h:p:=by
 refine Hvf ?_;intro E1 hnew MRA
 clear m0 hex HG
 have HFI:=Bc (HFL.out i xr)
 cases hfi:f i xr with
 | none=>
  refine Jwg ?_;intro HR HPUT'
  clear HGS hfi HFI HPUT
  go_wp2
  go_region_with (first
   | (
     go_at_call 201
     refine(HPART.out _ (by first|exact E1.out|exact E1.out.drew|exact E1.out.drew.drew) i Cg).mono ?_
     rintro e w2 ⟨ya,ym,yc,rfl,hpp,Fs⟩
     refine Yjk ?_;intro HPP Fh HB2R k2 l0 l1 l2
     clear hpp Fs k2)
   | (
     go_at_call 184
     refine(HPUT'.out _ _ (by first|exact E1.out|exact E1.out.drew|exact E1.out.drew.drew) (by first|exact Fh.out|exact Fh.out.drew) _ HPP.out (Ec ((HOR.out.alloc _)) (by first|exact Fh.out|exact Fh.out.drew|exact(Du _).trans Fh.out|exact Below.drew ((Du _).trans Fh.out)))).mono ?_
     rintro e w3 ⟨⟨za,zm,zc,rfl⟩,hg3⟩
     refine Bof ?_;intro HFIN
     clear hg3))
  all_goals go_wp2
  all_goals go_ret2
  all_goals rw [HR.out]
  all_goals exact⟨⟨_,_,_,rfl⟩,by first|exact HFIN.out|exact grownBy_drew HFIN.out⟩
 | some o=>
  refine Sh9 ?_;intro HR hol HPUT'
  clear HGS hfi HFI HPUT
  go_wp2
  go_region_with (first
   | (
     go_at_call 201
     refine(HPART.out _ (by first|exact E1.out|exact E1.out.drew|exact E1.out.drew.drew) i Cg).mono ?_
     rintro e w2 ⟨ya,ym,yc,rfl,hpp,Fs⟩
     refine Yjk ?_;intro HPP Fh HB2R k2 l0 l1 l2
     clear hpp Fs k2)
   | (
     go_at_call 184
     refine(HPUT'.out _ _ (by first|exact E1.out|exact E1.out.drew|exact E1.out.drew.drew) (by first|exact Fh.out|exact Fh.out.drew) _ HPP.out (Ec ((HOR.out.alloc _)) (by first|exact Fh.out|exact Fh.out.drew|exact(Du _).trans Fh.out|exact Below.drew ((Du _).trans Fh.out)))).mono ?_
     rintro e w3 ⟨ov3,rfl,ho3,hout3⟩
     have HO3:=Bc ho3
     have HOUT3:Hid (E2 w1 w3 ov ov3):=(HOUT.out.below (by first|exact HB2R.out|exact HB2R.out.drew)).trans hout3
     clear ho3 hout3))
  all_goals go_wp2
  all_goals go_roundw
  all_goals try(case rel=>exact⟨i+1,o,by go_num,Ab,Ab,Ab,HR,HO3,by first|exact HOUT3|exact HOUT3.out.below (Du _)⟩)
  all_goals try(case measure=>simp [intOf];omega)):p:=h
namespace Go.Proofs.YtjoblhlkfmeckaaGreatDoor
open Go.RowKit
def Pv(base:Nat)(w:qq)(es:List V)(lv:tj):Prop:=Tb w base w.heap.size es lv
theorem Pv.nil(base:Nat)(w:qq):Pv base w [] (cf od 0 0):=Tb.nil _ _
theorem Pv.keep{w w':qq}{base base':Nat}{es:List V}{lv:tj}(h:Pv base w es lv)(hb:base'<=base)(hs:w.heap.size<=w'.heap.size)(hk:∀b,base<=b->b<w.heap.size->w'.heap[b]? = w.heap[b]?):Pv base' w' es lv:=
 (Tb.congr h hk).mono hb hs
def G8(w w':qq)(bv:tj)(l:List UInt8)(e:mj):Option (V×List UInt8)->Prop
 | none=>Mp e
 | some (v,rest)=>∃lv rv,e=pd (fh #[AU v lv,rv,gf s7])/\Er w' (fun b=>w.heap.size<=b/\b<w'.heap.size) v.l lv/\I7 bv l rv rest/\Pv w.heap.size w' v.l lv
def WE(w w':qq)(bv:tj)(l:List UInt8)(e:mj):Option (List V×List UInt8)->Prop
 | none=>Mp e
 | some (es,rest)=>∃lv rv,e=pd (fh #[vv 0 ⟨#[]⟩ lv,rv,gf s7])/\Er w' (fun b=>w.heap.size<=b/\b<w'.heap.size) es lv/\I7 bv l rv rest/\Pv w.heap.size w' es lv
def BO(valid:ByteArray->Bool)(Tabs:qq->Prop)(k:Nat):Prop:=∀(w:qq),Tabs w->∀(t:Ty),Vp k t->∀(S:Nat->Prop) (psv:tj),El w S t.ps psv->(∀b,S b->b<w.heap.size)->∀(bv:tj) (l:List UInt8),l.length<=1000->Gz w bv l ->
 xi ly 186 #[D7 t.l psv,bv] w fun e w'=>G8 w w' bv l e (Orch.take valid k t l)/\ug w.heap.size w w'
def LO(valid:ByteArray->Bool)(Tabs:qq->Prop)(k:Nat):Prop:=∀(w:qq),Tabs w->∀(t:Ty),Vp (k+1) t->∀(S:Nat->Prop) (psv:tj),El w S t.ps psv->(∀b,S b->b<w.heap.size)->∀(n:Nat),n<=64->(t.l.shape=2∨t.l.shape=3/\n=t.ps.length)->∀(bv:tj) (l:List UInt8),l.length<=1000->Gz w bv l ->
 xi ly 205 #[D7 t.l psv,rl tz n,bv] w fun e w'=>WE w w' bv l e (Orch.takeE (Orch.take valid k) t n 0 l)/\ug w.heap.size w w'
theorem take_len(valid:ByteArray->Bool){k:Nat}{t:Ty}{l:List UInt8}{v:V}{r:List UInt8}(h:Orch.take valid k t l=lp (v,r)):r.length<=l.length:=by
 obtain⟨pre,hb,_⟩:=put_take valid _ _ _ _ _ h
 rw [hb,aH];omega
section
variable {valid:ByteArray->Bool} {Tabs:qq->Prop}
theorem QH(U:Jk valid Tabs)(k:Nat)(ih:BO valid Tabs k):LO valid Tabs k:=by
 intro w hT t E6 S psv hts hS n hn h23 bv l hl hbv
 obtain⟨pa,pc,rfl⟩:=hts.shape
 have HIH:=Bc ih
 have HTS:=Bc hts
 have HS:=Bc hS
 have HOK:=Bc E6
 have H23:=Bc h23
 have HTb:Hid (∀w',ug w.heap.size w w'->Tabs w'):=fun w' h=>U.kept (U.size hT) h hT
 obtain⟨TOT,hTOT⟩:∃TOT,Orch.takeE (Orch.take valid k) t n 0 l=TOT:=⟨_,rfl⟩
 rw [hTOT]
 have HTOT:=Bc hTOT
 have HBV:=Bc hbv
 clear ih hts hS E6 h23 hT hTOT hbv
 simp only [D7,Gl]
 generalize hsg:t.l.sign.toNat=sg
 generalize hsh:t.l.shape=sh
 generalize Di:t.l.size=sz
 generalize hlo:t.l.least=lo
 generalize hhi:t.l.most=hi
 generalize htx:t.l.text=tx
 generalize hfn:t.l.fin.toNat=fn
 have HPART:Hid (∀(W:qq) (i:Nat),i<n->ug w.heap.size w W->xi ly 201 #[.agg #[rl dc sg,rl tz sh,rl tz sz,rl tz lo,rl tz hi,gf tx,rl dc fn,cf pa t.ps.length pc],rl tz i] W fun e w'=>∃x,e=pd (D7 (Orch.part t i).l x)/\El W S (Orch.part t i).ps x/\ug W.heap.size W w'):=fun W i hi' hbW=>by
  subst hsg hsh Di hlo hhi htx hfn
  exact Uu W S t HOK.out _ (HTS.out.congr (fun _ h=>h) (fun b hb=>hbW.block b (HS.out b hb))) (fun b hb=>aB (HS.out b hb) hbW.size) i (by have:=H23.out;omega)
 clear hsg hsh Di hlo hhi htx hfn
 have HOK2:Hid (∀i,i<n->Vp k (Orch.part t i)):=fun i hi'=>Xw HOK.out i (by have:=H23.out;omega)
 clear H23 HOK
 generalize t.ps.length=pn at *
 obtain⟨n0,n1,n2⟩:=Abn w (ye #[rl dc sg,rl tz sh,rl tz sz,rl tz lo,rl tz hi,gf tx,rl dc fn,cf pa pn pc] 196) (ye #[rl tz 0,pt ⟨#[]⟩,cf od 0 0] 164) (ye #[rl tz 0,pt ⟨#[]⟩,cf od 0 0] 164)
 have N0:=Bc n0
 have N1:=Bc n1
 have N2:=Bc n2
 clear n0 n1 n2
 have hsw:w.heap.size+3<=(((w.alloc (ye #[rl dc sg,rl tz sh,rl tz sz,rl tz lo,rl tz hi,gf tx,rl dc fn,cf pa pn pc] 196)).alloc (ye #[rl tz 0,pt ⟨#[]⟩,cf od 0 0] 164)).alloc (ye #[rl tz 0,pt ⟨#[]⟩,cf od 0 0] 164)).heap.size:=Ae
 obtain⟨i0,hi0,hz0,hz1,hz2⟩:=info_parts Tryz.info164
 go_enter func205,ntmps205
 go_wp2
 go_loopw [2,15] (fun b2 i15 wr=>∃(i m:Nat) (lr:List UInt8) (ps:List (V×tj)) (lv:tj),i15=rl tz i/\i+m=n/\ps.length=i/\lr.length<=1000/\Hid (I7 bv l b2 lr) /\
   Hid ((Orch.takeE (Orch.take valid k) t m i lr).map (fun r=>(ps.map xo++r.1,r.2))=TOT)/\Hid (ug w.heap.size w wr)/\Hid (w.heap.size+3<=wr.heap.size) /\
   Hid (wr.heap[w.heap.size]? = lp (ye #[rl dc sg,rl tz sh,rl tz sz,rl tz lo,rl tz hi,gf tx,rl dc fn,cf pa pn pc] 196)) /\
   Hid (wr.heap[w.heap.size+1]? = lp (ye #[rl tz 0,pt ⟨#[]⟩,cf od 0 0] 164))/\Hid (wr.heap[w.heap.size+1+1]? = lp (ye #[rl tz 0,pt ⟨#[]⟩,lv] 164)) /\
   Hid (wr.ownsRow (w.heap.size+3) 164 3 lv ps.length (ps.flatMap Fe))/\Hid (∀p,p∈ps->Er wr (Beside (w.heap.size+3) lv wr) p.1.l p.2)/\Hid (BM wr (w.heap.size+3) lv ps))
  (fun _ i _=>n - (intOf i).toNat)
 case atStart=>exact⟨0,n,l,[],cf od 0 0,rfl,Ab,rfl,hl,I7.refl _ _,by show _=_;rw [HTOT.out];cases TOT <;> simp,Nc _ _ _ _,hsw,N0,N1,N2,vf _ _ _ _,(fun p hp=>by simp at hp),BM.nil _ _ _⟩
 case round=>
  obtain⟨i,m,lr,ps,lv,rfl,him,hpl,hlr,Fh,HE,HB,HSZ,HH0,HH1,HH2,HO,HPS,HOL⟩:=hrel
  obtain⟨la,lc,hlv⟩:∃a c,lv=cf a ps.length c:=by
   exact V4q
  subst hlv
  have HPL:=Bc hpl
  have hpl64:ps.length<=64:=Ab
  have HIM:=Bc him
  have hi64:i<=64:=Ab
  clear hpl
  obtain⟨e0,e1,e2⟩:=Ld 0 1 2 HH2.out
  by_cases Cg:i<n
  ·obtain⟨m',rfl⟩:∃m',m=m'+1:=⟨m - 1,Ab⟩
   obtain⟨a0,a1,a2,a3,a4,a5,a6,a7⟩:=KO 0 1 2 3 4 5 6 7 HH0.out
   have hltz:(i:Int)<(n:Int):=Ab
   have HTK:Hid (∀(W W1:qq) (x:tj),ug w.heap.size w W1->El W1 S (Orch.part t i).ps x->xi ly 186 #[D7 (Orch.part t i).l x,u2] W1 fun e w'=>G8 W1 w' u2 lr e (Orch.take valid k (Orch.part t i) lr)/\ug W1.heap.size W1 w'):=fun W W1 x hb hx=>
    HIH.out W1 (HTb.out W1 hb) (Orch.part t i) (HOK2.out i Cg) S x hx (fun b hbb=>aB (HS.out b hbb) hb.size) u2 lr hlr ((Fh.out w HBV.out).below hb (aA _))
   have HN:Hid (TOT=match Orch.take valid k (Orch.part t i) lr with
     | none=>od
     | some (e,rest)=>(Orch.takeE (Orch.take valid k) t m' (i+1) rest).map (fun r=>(ps.map xo ++ [e]++r.1,r.2))):=by
    show _=_
    rw [←HE.out,Orch.takeE]
    cases Orch.take valid k (Orch.part t i) lr with
    | none=>rfl
    | some er=>
     obtain⟨e,rest⟩:=er
     simp only
     cases Orch.takeE (Orch.take valid k) t m' (i+1) rest with
     | none=>rfl
     | some es=>simp
   have HLEN:Hid (∀v r,Orch.take valid k (Orch.part t i) lr=lp (v,r)->r.length<=lr.length):=fun v r h=>take_len valid h
   clear HE him HIH HTS HTOT HOK2 N0 N1 N2
   cases hq:Orch.take valid k (Orch.part t i) lr with
   | none=>
    have HR:Hid (TOT=od):=by
     show _=_
     rw [HN.out,hq]
    rw [hq] at HTK
    clear HN hq HLEN
    go_wp2_with (first
     | (go_at_call 201;refine(HPART.out _ i Cg HB.out).mono ?_;rintro e w1 ⟨x,rfl,hx,B9⟩;obtain⟨xa,xc,rfl⟩:=hx.shape;have Cs:Hid (ug wr.heap.size wr w1):=B9;have HX1:Hid (El w1 S (Orch.part t i).ps (cf xa (Orch.part t i).ps.length xc)):=hx.congr (fun _ h=>h) (fun b hb=>B9.block b (aB (HS.out b hb) HB.out.size));clear hx B9)
     | (go_at_call 186;refine(HTK.out wr _ _ (HB.out.trans (Cs.out.mono HB.out.size)) HX1.out).mono ?_;rintro e w2 ⟨⟨vn,vs,va,va',vm,vc,vm',vc',rfl⟩,Fs⟩;have HB3:Hid (ug wr.heap.size wr w2):=Cs.out.trans (Fs.mono Cs.out.size);clear Fs)
     | (refine wpList_store_row rfl 164 _ _ rfl (w.heap.size+1) #[rl tz 0,pt ⟨#[]⟩,cf od 0 0] rfl rfl 164 _ ((Below.heap_alloc _ _ _ (aB (ltOf HH1.out) HB3.out.size)).trans ((HB3.out.block _ (ltOf HH1.out)).trans HH1.out)) Tryz.size164 rfl (Ly _ _ _ _ _) ?_))
    refine Gt (fun X=>X.heap[w.heap.size+1]? = lp (ye #[rl tz 0,pt ⟨#[]⟩,cf od 0 0] 164)/\ug w.heap.size w X) ⟨setRow_heap _ _ _ _ _ _ ((Below.heap_alloc _ _ _ (aB (ltOf HH1.out) HB3.out.size)).trans ((HB3.out.block _ (ltOf HH1.out)).trans HH1.out)),Ci ((HB.out.trans (HB3.out.mono HB.out.size)).alloc (by have:=HB.out.size;have:=HB3.out.size;omega) _) (dD _) _⟩ ?_
    rintro X ⟨HQ,hbX⟩
    obtain⟨c0,c1,c2⟩:=Ld 0 1 2 HQ
    have HBX:=Bc hbX
    clear hbX HQ e0 e1 e2 a0 a1 a2 a3 a4 a5 a6 a7
    refine zg (v:=fh #[vv 0 ⟨#[]⟩ (cf od 0 0),cf od 0 0,gf vp]) (by simp [results,results205,go_sem,c0,c1,c2]) rfl ⟨?_,HBX.out⟩
    rw [HR.out]
    exact⟨_,_,_,_,_,_,_,_,rfl⟩
   | some er=>
    obtain⟨v,rest⟩:=er
    have HR:Hid ((Orch.takeE (Orch.take valid k) t m' (i+1) rest).map (fun r=>(ps.map xo ++ [v]++r.1,r.2))=TOT):=by
     show _=_
     rw [HN.out,hq]
    have hrl:=HLEN.out v rest hq
    rw [hq] at HTK
    clear HN hq HLEN
    go_wp2_with (first
     | (at_builtin;refine wpList_append_lies _ rfl _ _ 158 rfl (w.heap.size+3) 164 i0 (vv 0 ⟨#[]⟩ (cf od 0 0)) 3 48 underlying158 hi0 hz0 hz1 hz2 rfl Ad _ _ _ rfl (((Ec HO.out HB3.out).alloc _).alloc _) ⟨w2.heap.size+1,0,od⟩ 1 1 (Fe (v,cf va v.l.length vc)) rfl rfl ?hn ?h1 Ad ?c3 ?c4 ?c5 (w2.heap.size+1+1) ?hH ?_)
     | (go_at_call 201;refine(HPART.out _ i Cg HB.out).mono ?_;rintro e w1 ⟨x,rfl,hx,B9⟩;obtain⟨xa,xc,rfl⟩:=hx.shape;have Cs:Hid (ug wr.heap.size wr w1):=B9;have HX1:Hid (El w1 S (Orch.part t i).ps (cf xa (Orch.part t i).ps.length xc)):=hx.congr (fun _ h=>h) (fun b hb=>B9.block b (aB (HS.out b hb) HB.out.size));clear hx B9)
     | (go_at_call 186;refine(HTK.out wr _ _ (HB.out.trans (Cs.out.mono HB.out.size)) HX1.out).mono ?_;rintro e w2 ⟨⟨lv',rv,rfl,hvs,htl,hov⟩,Fs⟩;obtain⟨va,vc,rfl⟩:=hvs.shape;have HB3:Hid (ug wr.heap.size wr w2):=Cs.out.trans (Fs.mono Cs.out.size);have HVS:Hid (Er w2 (fun b=>wr.heap.size<=b/\b<w2.heap.size) v.l (cf va v.l.length vc)):=hvs.congr (fun b hb=>⟨aE Cs.out.size hb.1,hb.2⟩) (fun _ _=>rfl);have HTL:=Bc htl;have HOV:Hid (Tb w2 wr.heap.size w2.heap.size v.l (cf va v.l.length vc)):=Tb.mono hov Cs.out.size (aA _);clear hov;have g2:=cellOf (j:=2) ((HB3.out.block _ (ltOf HH2.out)).trans HH2.out) rfl;have hw2:w.heap.size+1+1<w2.heap.size:=aB (ltOf HH2.out) HB3.out.size;clear Fs hvs htl))
    case hn=>exact World.news_of_block (Mo w2 _ _).2
    case h1=>intro u hu;simp only [Fe,bI,cF,or_false] at hu;rcases hu with rfl|rfl|rfl <;> rfl
    case c3=>unfold maxLen;omega
    case c4=>omega
    case c5=>have:=HSZ.out;have:=HB3.out.size;simp;omega
    case hH=>simp
    intro g cap w3 hown3 hgr hat _
    obtain⟨r1,r2,r3⟩:=XZ (t:=v) (x:=cf va v.l.length vc) HSZ.out HO.out HPS.out HB3.out HVS.out (Ck w2 _ _) hown3 hgr (by simpa using hat)
    have r4:=BM.grow (n:=ps.length+1) (cap:=cap) (t:=v) (x:=cf va v.l.length vc) HSZ.out (fun g' h'=>(HO.out.lt g' h').2) HOL.out HB3.out HOV.out (Ck w2 _ _) hgr (by simpa using hat)
    have k2:w3.heap[w.heap.size+1+1]? = _:=(r3.block _ Ab).trans HH2.out
    have k1:w3.heap[w.heap.size+1]? = _:=(r3.block _ Ab).trans HH1.out
    have k0:w3.heap[w.heap.size]? = _:=(r3.block _ Ab).trans HH0.out
    have d2:=Kl 2 k2
    have f2:=Ay (j:=2) k2
    have s3:=Bc (aE HSZ.out r3.size)
    have q2:=heap_setCell_same w3 (w.heap.size+1+1) 2 _ 164 (cf (lp ⟨g,0,od⟩) (ps.length+1) cap) k2
    have Q2:Hid ((w3.setCell ⟨w.heap.size+1+1,2,od⟩ (cf (lp ⟨g,0,od⟩) (ps.length+1) cap)).heap[w.heap.size+1+1]? = lp (ye #[rl tz 0,pt ⟨#[]⟩,cf (lp ⟨g,0,od⟩) (ps.length+1) cap] 164)):=q2
    have Q1:Hid ((w3.setCell ⟨w.heap.size+1+1,2,od⟩ (cf (lp ⟨g,0,od⟩) (ps.length+1) cap)).heap[w.heap.size+1]? = lp (ye #[rl tz 0,pt ⟨#[]⟩,cf od 0 0] 164)):=(cr _ ⟨w.heap.size+1+1,2,od⟩ _ _ (by show w.heap.size+1≠w.heap.size+1+1;omega)).trans k1
    have Q0:Hid ((w3.setCell ⟨w.heap.size+1+1,2,od⟩ (cf (lp ⟨g,0,od⟩) (ps.length+1) cap)).heap[w.heap.size]? = lp (ye #[rl dc sg,rl tz sh,rl tz sz,rl tz lo,rl tz hi,gf tx,rl dc fn,cf pa pn pc] 196)):=(cr _ ⟨w.heap.size+1+1,2,od⟩ _ _ (by show w.heap.size≠w.heap.size+1+1;omega)).trans k0
    have R1:=Bc (ownsRow_setCell_below r1 (a:=⟨w.heap.size+1+1,2,od⟩) (by show w.heap.size+1+1<w.heap.size+3;omega) (cf (lp ⟨g,0,od⟩) (ps.length+1) cap))
    have R2:Hid (∀p,p∈ps ++ [(v,cf va v.l.length vc)]->Er (w3.setCell ⟨w.heap.size+1+1,2,od⟩ (cf (lp ⟨g,0,od⟩) (ps.length+1) cap)) (Beside (w.heap.size+3) (cf (lp ⟨g,0,od⟩) (ps.length+1) cap) (w3.setCell ⟨w.heap.size+1+1,2,od⟩ (cf (lp ⟨g,0,od⟩) (ps.length+1) cap))) p.1.l p.2):=fun p hp=>
     (r2 p hp).congr (fun b hb=>⟨hb.1,by have:=hb.2.1;simpa [vk] using this,hb.2.2⟩) (fun b hb=>cr _ ⟨w.heap.size+1+1,2,od⟩ _ _ (by have:=hb.1;show b≠w.heap.size+1+1;omega))
    have R3:Hid (ug w.heap.size w (w3.setCell ⟨w.heap.size+1+1,2,od⟩ (cf (lp ⟨g,0,od⟩) (ps.length+1) cap))):=(HB.out.trans (r3.mono Ab)).setCell (p:=⟨w.heap.size+1+1,2,od⟩) (by show w.heap.size<=w.heap.size+1+1;omega) _
    have R4:Hid (w.heap.size+3<=(w3.setCell ⟨w.heap.size+1+1,2,od⟩ (cf (lp ⟨g,0,od⟩) (ps.length+1) cap)).heap.size):=by
     show _<=_
     have:=s3.out
     simpa [vk] using this
    have HR2:Hid ((Orch.takeE (Orch.take valid k) t m' (i+1) rest).map (fun r=>((ps ++ [(v,cf va v.l.length vc)]).map xo++r.1,r.2))=TOT):=by
     show _=_
     rw [cI]
     exact HR.out
    have R5:Hid (BM (w3.setCell ⟨w.heap.size+1+1,2,od⟩ (cf (lp ⟨g,0,od⟩) (ps.length+1) cap)) (w.heap.size+3) (cf (lp ⟨g,0,od⟩) (ps.length+1) cap) (ps ++ [(v,cf va v.l.length vc)])):=
     r4.keep (by simp [vk]) (fun b hb _ _=>cr _ ⟨w.heap.size+1+1,2,od⟩ _ _ (by show b≠w.heap.size+1+1;omega))
    clear r4
    clear r1 r2 r3 k0 k1 k2 q2 hown3 hgr hat e0 e1 e2 g2
    go_wp2
    go_roundw
    case rel=>exact⟨i+1,m',rest,ps ++ [(v,cf va v.l.length vc)],cf (lp ⟨g,0,od⟩) (ps.length+1) cap,by go_num,by have:=HIM.out;omega,by rw [aH,eO,HPL.out],Ab,Fh.out.trans HTL.out,HR2,R3,R4,Q0,Q1,Q2,R1,R2,R5⟩
    case measure=>simp [intOf];omega
  ·have hm0:m=0:=Ab
   subst hm0
   clear him
   have HR:Hid (TOT=lp (ps.map xo,lr)):=by
    show _=_
    rw [←HE.out];simp [Orch.takeE]
   clear HE
   go_wp2_with (refine wpList_store_row rfl 164 _ _ rfl (w.heap.size+1) #[rl tz 0,pt ⟨#[]⟩,cf la ps.length lc] rfl rfl 164 _ HH1.out Tryz.size164 rfl (Ly _ _ _ _ _) ?_)
   refine Gt (fun X=>X.heap[w.heap.size+1]? = lp (ye #[rl tz 0,pt ⟨#[]⟩,cf la ps.length lc] 164)/\ug w.heap.size w X/\X.heap.size=wr.heap.size/\∀b,b≠w.heap.size+1->X.heap[b]? = wr.heap[b]?) ⟨setRow_heap _ _ _ _ _ _ HH1.out,Ci HB.out (dD _) _,Ae,fun b hb=>setRow_other _ _ _ _ hb⟩ ?_
   rintro X ⟨HQ,hbX,hsX,hkX⟩
   refine Rmi ?_;intro c0 c1 c2 HBX HSX HKX
   clear hbX hsX hkX HQ e0 e1 e2
   refine zg (v:=fh #[vv 0 ⟨#[]⟩ (cf la ps.length lc),u2,gf s7]) (by simp [results,results205,go_sem,c0,c1,c2]) rfl ⟨?_,HBX.out⟩
   rw [HR.out]
   have hdone:=BM.done HO.out HOL.out
   refine⟨_,_,rfl,?_,?_,Pv.keep (w:=wr) (base:=w.heap.size+3) hdone Ab (by rw [HSX.out];exact aA _) (fun b hb _=>HKX.out b Ab)⟩
   ·refine(XN (B:=w.heap.size+3) HO.out HPS.out (aA _)).congr (fun b hb=>⟨Ab,by rw [HSX.out];exact hb.2⟩) (fun b hb=>HKX.out b Ab)
   ·exact Fh.out
end
def Zz(pv:qq->tj->qq->Prop)(w:qq)(e:mj)(w':qq):Prop:=
 (∃(W wb:qq) (v:tj),e=pd v/\pv W v wb/\w.heap.size+2<=W.heap.size/\w'.heap.size=wb.heap.size/\∀b,b≠w.heap.size+1->w'.heap[b]? = wb.heap[b]?)/\ug w.heap.size w w'
def handed(pv:qq->tj->qq->Prop)(W:qq)(e:mj)(w':qq):Prop:=
 (∃(n:Int) (s:ByteArray) (a:Option zu) (m c:Nat) (rv:tj) (ok:Bool),e=pd (fh #[vv n s (cf a m c),rv,gf ok])/\pv W (fh #[vv n s (cf a m c),rv,gf ok]) w')/\ug W.heap.size W w'
theorem ZQ(w:qq)(sg sz:Nat)(lo hi:Int)(tx:Bool)(fn:Nat)(pa:Option zu)(pn pc:Nat)(bv:tj)(pv:qq->tj->qq->Prop)(HC:Hid (∀W,ug w.heap.size w W->xi ly 202 #[Gl sg 0 sz lo hi tx fn (cf pa pn pc),bv] W (handed pv W))) :
  xi ly 186 #[Gl sg 0 sz lo hi tx fn (cf pa pn pc),bv] w (Zz pv w):=by
 obtain⟨n0,n1⟩:=Mo w (ye #[rl dc sg,rl tz 0,rl tz sz,rl tz lo,rl tz hi,gf tx,rl dc fn,cf pa pn pc] 196) (ye #[rl tz 0,pt ⟨#[]⟩,cf od 0 0] 164)
 have N1:=Bc n1
 clear n0 n1
 have Di:w.heap.size+2<=((w.alloc (ye #[rl dc sg,rl tz 0,rl tz sz,rl tz lo,rl tz hi,gf tx,rl dc fn,cf pa pn pc] 196)).alloc (ye #[rl tz 0,pt ⟨#[]⟩,cf od 0 0] 164)).heap.size:=Ae
 have HSZ:=Bc Di
 clear Di
 go_enter pq,yg
 go_wp2_with (first
  | (refine wpList_store_row rfl 164 _ _ rfl (w.heap.size+1) #[rl tz n,pt s,cf a m c] rfl rfl 164 _ HH.out Tryz.size164 rfl (Ly _ _ _ _ _) ?_)
  | (go_at_call 202;refine(HC.out _ (Ck _ _ _)).mono ?_;rintro e w1 ⟨⟨n,s,a,m,c,rv,ok,rfl,hpv⟩,B9⟩;have HPV:=Bc hpv;have HH:Hid (w1.heap[w.heap.size+1]? = lp (ye #[rl tz 0,pt ⟨#[]⟩,cf od 0 0] 164)):=(B9.block _ (ltOf N1.out)).trans N1.out;have Cs:Hid (ug w.heap.size w w1):=(Ck _ _ _).trans (B9.mono Ag);clear B9 hpv))
 exact Nzm
theorem ZR(w:qq)(sg sz:Nat)(lo hi:Int)(tx:Bool)(fn:Nat)(pa:Option zu)(pn pc:Nat)(bv:tj)(pv:qq->tj->qq->Prop)(HC:Hid (∀W,ug w.heap.size w W->xi ly 203 #[Gl sg 1 sz lo hi tx fn (cf pa pn pc),bv] W (handed pv W))) :
  xi ly 186 #[Gl sg 1 sz lo hi tx fn (cf pa pn pc),bv] w (Zz pv w):=by
 obtain⟨n0,n1⟩:=Mo w (ye #[rl dc sg,rl tz 1,rl tz sz,rl tz lo,rl tz hi,gf tx,rl dc fn,cf pa pn pc] 196) (ye #[rl tz 0,pt ⟨#[]⟩,cf od 0 0] 164)
 have N1:=Bc n1
 clear n0 n1
 have Di:w.heap.size+2<=((w.alloc (ye #[rl dc sg,rl tz 1,rl tz sz,rl tz lo,rl tz hi,gf tx,rl dc fn,cf pa pn pc] 196)).alloc (ye #[rl tz 0,pt ⟨#[]⟩,cf od 0 0] 164)).heap.size:=Ae
 have HSZ:=Bc Di
 clear Di
 go_enter pq,yg
 go_wp2_with (first
  | (refine wpList_store_row rfl 164 _ _ rfl (w.heap.size+1) #[rl tz n,pt s,cf a m c] rfl rfl 164 _ HH.out Tryz.size164 rfl (Ly _ _ _ _ _) ?_)
  | (go_at_call 203;refine(HC.out _ (Ck _ _ _)).mono ?_;rintro e w1 ⟨⟨n,s,a,m,c,rv,ok,rfl,hpv⟩,B9⟩;have HPV:=Bc hpv;have HH:Hid (w1.heap[w.heap.size+1]? = lp (ye #[rl tz 0,pt ⟨#[]⟩,cf od 0 0] 164)):=(B9.block _ (ltOf N1.out)).trans N1.out;have Cs:Hid (ug w.heap.size w w1):=(Ck _ _ _).trans (B9.mono Ag);clear B9 hpv))
 exact Nzm
theorem ZT(w:qq)(sg sz:Nat)(lo hi:Int)(tx:Bool)(fn:Nat)(pa:Option zu)(pn pc:Nat)(bv:tj)(pv:qq->tj->qq->Prop)(HC:Hid (∀W,ug w.heap.size w W->xi ly 205 #[Gl sg 3 sz lo hi tx fn (cf pa pn pc),rl tz pn,bv] W (handed pv W))) :
  xi ly 186 #[Gl sg 3 sz lo hi tx fn (cf pa pn pc),bv] w (Zz pv w):=by
 obtain⟨n0,n1⟩:=Mo w (ye #[rl dc sg,rl tz 3,rl tz sz,rl tz lo,rl tz hi,gf tx,rl dc fn,cf pa pn pc] 196) (ye #[rl tz 0,pt ⟨#[]⟩,cf od 0 0] 164)
 have N1:=Bc n1
 clear n0 n1
 have Di:w.heap.size+2<=((w.alloc (ye #[rl dc sg,rl tz 3,rl tz sz,rl tz lo,rl tz hi,gf tx,rl dc fn,cf pa pn pc] 196)).alloc (ye #[rl tz 0,pt ⟨#[]⟩,cf od 0 0] 164)).heap.size:=Ae
 have HSZ:=Bc Di
 clear Di
 go_enter pq,yg
 go_wp2_with (first
  | (refine wpList_store_row rfl 164 _ _ rfl (w.heap.size+1) #[rl tz n,pt s,cf a m c] rfl rfl 164 _ HH.out Tryz.size164 rfl (Ly _ _ _ _ _) ?_)
  | (go_at_call 205;refine(HC.out _ (Ck _ _ _)).mono ?_;rintro e w1 ⟨⟨n,s,a,m,c,rv,ok,rfl,hpv⟩,B9⟩;have HPV:=Bc hpv;have HH:Hid (w1.heap[w.heap.size+1]? = lp (ye #[rl tz 0,pt ⟨#[]⟩,cf od 0 0] 164)):=(B9.block _ (ltOf N1.out)).trans N1.out;have Cs:Hid (ug w.heap.size w w1):=(Ck _ _ _).trans (B9.mono Ag);clear B9 hpv))
 exact Nzm
theorem ZS(w:qq)(sg sz:Nat)(lo hi:Int)(tx:Bool)(fn:Nat)(pa:Option zu)(pn pc:Nat)(bv:tj)(pv:qq->tj->qq->Prop)(nn:Nat)(q:tj->Prop)(HK:Hid (∀W,ug w.heap.size w W->xi ly 204 #[bv,rl tz 32] W fun e w'=>(∃v,e=pd (fh #[rl tz nn,v,gf s7])/\q v)/\ug W.heap.size W w'))(HC:Hid (∀W v,q v->ug w.heap.size w W->xi ly 205 #[Gl sg 2 sz lo hi tx fn (cf pa pn pc),rl tz nn,v] W (handed pv W))) :
  xi ly 186 #[Gl sg 2 sz lo hi tx fn (cf pa pn pc),bv] w (Zz pv w):=by
 refine Oc6 ?_;intro n0 n1
 have N0:=Bc n0
 have N1:=Bc n1
 clear n0 n1
 have Di:w.heap.size+2<=((w.alloc (ye #[rl dc sg,rl tz 2,rl tz sz,rl tz lo,rl tz hi,gf tx,rl dc fn,cf pa pn pc] 196)).alloc (ye #[rl tz 0,pt ⟨#[]⟩,cf od 0 0] 164)).heap.size:=Ae
 have HSZ:=Bc Di
 clear Di
 go_enter pq,yg
 go_wp2_with (first
  | (refine wpList_store_row rfl 164 _ _ rfl (w.heap.size+1) #[rl tz n,pt s,cf a m c] rfl rfl 164 _ HH.out Tryz.size164 rfl (Ly _ _ _ _ _) ?_)
  | (go_at_call 204;refine(HK.out _ (Ck _ _ _)).mono ?_;rintro e w0 ⟨⟨v0,rfl,hq⟩,hb0⟩;have HQV:=Bc hq;have HB0:Hid (ug w.heap.size w w0):=(Ck _ _ _).trans (hb0.mono Ag);have M1:Hid (w0.heap[w.heap.size+1]? = lp (ye #[rl tz 0,pt ⟨#[]⟩,cf od 0 0] 164)):=(hb0.block _ (ltOf N1.out)).trans N1.out;have m0:=(hb0.block _ (ltOf N0.out)).trans N0.out;have a0:=cellOf (j:=0) m0 rfl;have a1:=cellOf (j:=1) m0 rfl;have a2:=cellOf (j:=2) m0 rfl;have a3:=cellOf (j:=3) m0 rfl;have a4:=cellOf (j:=4) m0 rfl;have a5:=cellOf (j:=5) m0 rfl;have a6:=cellOf (j:=6) m0 rfl;have a7:=cellOf (j:=7) m0 rfl;clear hb0 hq m0)
  | (go_at_call 205;refine(HC.out _ _ HQV.out HB0.out).mono ?_;rintro e w1 ⟨⟨n,s,a,m,c,rv,ok,rfl,hpv⟩,B9⟩;have HPV:=Bc hpv;have HH:Hid (w1.heap[w.heap.size+1]? = lp (ye #[rl tz 0,pt ⟨#[]⟩,cf od 0 0] 164)):=(B9.block _ (ltOf M1.out)).trans M1.out;have Cs:Hid (ug w.heap.size w w1):=HB0.out.trans (B9.mono HB0.out.size);have HSZ0:Hid (w.heap.size+2<=w0.heap.size):=ltOf M1.out;clear B9 hpv a0 a1 a2 a3 a4 a5 a6 a7))
 refine Vma ?_
 rintro X ⟨HQ,hbX,hsX,hkX⟩
 refine Rmi ?_;intro c0 c1 c2 HBX HSX HKX
 clear hbX hsX hkX HQ
 exact zg (v:=fh #[vv n s (cf a m c),rv,gf ok]) (by simp [results,results186,go_sem,c0,c1,c2]) rfl ⟨⟨_,w1,_,rfl,HPV.out,HSZ0.out,HSX.out,HKX.out⟩,HBX.out⟩
theorem EJ(w:qq)(sg sz:Nat)(lo hi:Int)(tx:Bool)(fn:Nat)(pa:Option zu)(pn pc:Nat)(bv:tj)(HK:Hid (∀W,ug w.heap.size w W->xi ly 204 #[bv,rl tz 32] W fun e w'=>e=pd (fh #[rl tz 0,cf od 0 0,gf vp])/\ug W.heap.size W w')) :
  xi ly 186 #[Gl sg 2 sz lo hi tx fn (cf pa pn pc),bv] w fun e w'=>Mp e/\ug w.heap.size w w':=by
 refine Oc6 ?_;intro n0 n1
 have N1:=Bc n1
 clear n0 n1
 go_enter pq,yg
 go_wp2_with (first
  | (refine wpList_store_row rfl 164 _ _ rfl (w.heap.size+1) #[rl tz 0,pt ⟨#[]⟩,cf od 0 0] rfl rfl 164 _ HH.out Tryz.size164 rfl (Ly _ _ _ _ _) ?_)
  | (go_at_call 204;refine(HK.out _ (Ck _ _ _)).mono ?_;rintro e w1 ⟨rfl,B9⟩;have HH:Hid (w1.heap[w.heap.size+1]? = lp (ye #[rl tz 0,pt ⟨#[]⟩,cf od 0 0] 164)):=(B9.block _ (ltOf N1.out)).trans N1.out;have Cs:Hid (ug w.heap.size w w1):=(Ck _ _ _).trans (B9.mono Ag);clear B9))
 refine Z32 ?_
 rintro X ⟨HQ,hbX⟩
 obtain⟨c0,c1,c2⟩:=Ld 0 1 2 HQ
 have HBX:=Bc hbX
 clear hbX HQ
 exact zg (v:=fh #[vv 0 ⟨#[]⟩ (cf od 0 0),cf od 0 0,gf vp]) (by simp [results,results186,go_sem,c0,c1,c2]) rfl ⟨⟨_,_,_,_,_,_,_,_,rfl⟩,HBX.out⟩
structure E2(w w':qq)(v v':tj):Prop where
 grown:w.grownBy w' v.ownBlock
 lies:v'.ownBlock=v.ownBlock∨∃g,v'.ownBlock=lp g/\w.heap.size<=g
theorem E2.refl(w:qq)(v:tj):E2 w w v v:=⟨⟨rfl,rfl,rfl,aA _,fun _ _ _=>rfl⟩,Or.inl rfl⟩
theorem E2.trans{w0 w1 w2:qq}{a b c:tj}(h:E2 w0 w1 a b)(k:E2 w1 w2 b c):E2 w0 w2 a c:=by
 have s0:=h.grown.size
 refine⟨⟨k.grown.os.trans h.grown.os,k.grown.tape.trans h.grown.tape,k.grown.output.trans h.grown.output,aE s0 k.grown.size,fun i hi Cu=>?_⟩,?_⟩
 ·rw [k.grown.block i Ab ?_,h.grown.block i hi Cu]
  intro e
  rcases h.lies with hl|⟨g,hl,hg⟩
  ·rw [hl] at e;exact Cu e
  ·rw [hl] at e
   simp only [aL] at e
   omega
 ·rcases k.lies with kl|⟨g,kl,hg⟩
  ·rw [kl];exact h.lies
  ·exact Or.inr ⟨g,kl,Ab⟩
theorem E2.below{w0 w1 w2:qq}{a b:tj}(h:E2 w0 w1 a b)(k:ug w1.heap.size w1 w2):E2 w0 w2 a b:=
 ⟨⟨k.os.trans h.grown.os,k.tape.trans h.grown.tape,k.output.trans h.grown.output,aE h.grown.size k.size,fun i hi Cu=>(k.block i (aB hi h.grown.size)).trans (h.grown.block i hi Cu)⟩,h.lies⟩
theorem E2.from{w0 w1 w2:qq}{a b:tj}(k:ug w0.heap.size w0 w1)(h:E2 w1 w2 a b):E2 w0 w2 a b:=
 ⟨⟨h.grown.os.trans k.os,h.grown.tape.trans k.tape,h.grown.output.trans k.output,aE k.size h.grown.size,fun i hi Cu=>(h.grown.block i (aB hi k.size) Cu).trans (k.block i hi)⟩,by
  rcases h.lies with hl|⟨g,hl,hg⟩
  ·exact Or.inl hl
  ·exact Or.inr ⟨g,hl,aE k.size hg⟩⟩
theorem E2.low{w0 w1:qq}{a b:tj}(h:E2 w0 w1 a b){base:Nat}(hb:base<=w0.heap.size)(ha:∀g,a.ownBlock=lp g->base<=g):ug base w0 w1:=
 ⟨h.grown.os,h.grown.tape,h.grown.output,h.grown.size,fun k hk=>h.grown.block k Ab (fun e=>by have:=ha k e.symm;omega)⟩
theorem E2.keep{w0 w1:qq}{a b:tj}(h:E2 w0 w1 a b){g:Nat}{o:Obj}(hg:w0.heap[g]? = lp o)(Cu:a.ownBlock≠lp g):w1.heap[g]? = lp o:=
 (h.grown.block g (ltOf hg) (fun e=>Cu e.symm)).trans hg
section
variable {P:Program} (w:qq)
theorem Lk(base:Nat)(t u ty e:TypeId)(i:TypeInfo)(ht:P.underlying t=lp (.slice e))(hu:P.underlying u=lp .string)(hi:P.info? e=lp i)(hz:i.zero=lp (rl dc 0))(hsize:i.size=1)(hby:i.bytes=1)(v:tj)(n:Nat)(hn:0<n)(xs:List tj)(Db:w.ownsRow base e 1 v n xs)(s:ByteArray)(h63:n+s.size<=maxLen)(hbytes:n+s.size<=140737488355328)(Dx:base<=w.heap.size) :
  ∃v' w',(Builtin.append_ #[t,u] ty #[v,pt s]).run P w=.ok v' w'/\w'.ownsRow base e 1 v' (n+s.size) (xs++qv s)/\E2 w w' v v':=by
 obtain⟨v',w',hr,h2,h3,_⟩:=Lib.run_append_own_string (P:=P) w base t u ty e i ht hu hi hz hsize hby v n xs Db s h63 hbytes Dx
 refine⟨v',w',hr,h2,h3,?_⟩
 have hsmall:n+s.size<=9223372036854775807:=by simp only [maxLen] at h63;omega
 rcases Db.2 with⟨_,h0⟩|⟨g,cap,cur,rfl,hbg,hg,hnc,hcm,hcs,htake⟩
 ·omega
 ·by_cases hroom:n+s.size<=cap
  ·have hx:=Lib.run_append_room_string (P:=P) w t u ty e i ht hu hi hsize g n cap cur hg s hroom Ab
   rw [hr] at hx
   injection hx with hv hw
   rw [hv]
   exact Or.inl rfl
  ·have holds:∀j u,xs[j]? = lp u->w.cell? ((⟨g,0,od⟩:zu).add j)=lp u:=Db.cells (g:=g) rfl
   have hx:=Lib.run_append_grow_string (P:=P) w t u ty e i (rl dc 0) ht hu hi hz ⟨g,0,od⟩ n cap xs (by rw [hsize];exact Db.1) holds s Ab Ab (by rw [hby];exact growslice_fits Ab Ab)
   rw [hr] at hx
   injection hx with hv hw
   rw [hv]
   exact Or.inr ⟨w.heap.size,rfl,aA _⟩
theorem Jr{ops:Array Oper}{rest:List Oper}{o:Oper}{a:Act}{Q:Exit->Act->qq->Prop}(hgd:o.guard=od)(sl x:Operand)(t u:TypeId)(ho:o.op=.call { callee:=.builtin .append,args:=#[sl,x],argTypes:=#[t,u] })(base:Nat)(e:TypeId)(i:TypeInfo)(ht:P.underlying t=lp (.slice e))(hu:P.underlying u=lp .string)(hi:P.info? e=lp i)(hz:i.zero=lp (rl dc 0))(hsize:i.size=1)(hby:i.bytes=1)(v:tj)(n:Nat)(hn:0<n)(xs:List tj)(hs:a.eval sl=v)(Db:w.ownsRow base e 1 v n xs)(s:ByteArray)(hx:a.eval x=pt s)(h63:n+s.size<=maxLen)(hbytes:n+s.size<=140737488355328)(Dx:base<=w.heap.size)(h:∀v' w',w'.ownsRow base e 1 v' (n+s.size) (xs++qv s)->E2 w w' v v'->wpList P ops Q rest (a.put o.dst v') w'):wpList P ops Q (o :: rest) a w:=by
 refine wpList_plain hgd fun K hK=>?_
 obtain⟨v',w',hr,h2,h3⟩:=Lk (P:=P) w base t u o.type e i ht hu hi hz hsize hby v n hn xs Db s h63 hbytes Dx
 unfold Oper.wp execOp
 simp only [ho,resolve,invoke,builtin,Sem.run_bind,Sem.run_pure,Result.andThen_ok,dG,bY,dR,hs,hx,hr]
 exact hK _ _ (h v' w' h2 h3)
end
theorem Sm(w:qq)(base:Nat)(v:tj)(n:Int)(size:Nat)(xs:List UInt8)(hs:size<=8)(Db:w.ownsRow base 5 1 v xs.length (A0 xs))(Dx:base<=w.heap.size)(hx:xs.length<=100000) :
  xi ly 131 #[v,rl tz n,rl tz size] w fun e w'=>∃v',e=pd v'/\w'.ownsRow base 5 1 v' (xs++Orch.be n size).length (A0 (xs++Orch.be n size))/\E2 w w' v v':=by
 obtain⟨i0,hi,hz0,hz1,hz2⟩:=info_parts Tryz.info5
 go_enter func131,ntmps131
 go_wp2
 go_loopw [0,7] (fun u i wr=>∃j:Nat,j<=size/\i=rl tz ((j:Int) - 1)/\Hid (wr.ownsRow base 5 1 u (xs++(Orch.be n size).take (size - j)).length (A0 (xs++(Orch.be n size).take (size - j))))/\Hid (E2 w wr v u))
  (fun _ i _=>(intOf i+1).toNat)
 case atStart=>exact⟨size,aA _,rfl,by show World.ownsRow _ _ _ _ _ _ _;rw [Nat.sub_self];simpa using Db,E2.refl _ _⟩
 case round=>
  obtain⟨j,hj,rfl,ho,hbw⟩:=hrel
  cases j with
  | zero=>
   exact Hz8
  | succ m=>
   rw [show((m+1:Nat):Int) - 1=(m:Int) by omega]
   refine Khb ?_;intro hl HT HB
   generalize xs++(Orch.be n size).take (size - (m+1))=L at *
   go_wp2_with (at_builtin;refine wpList_append_own_at _ rfl _ _ 35 rfl base 5 i0 (rl dc 0) 1 1 underlying35 hi hz0 hz1 hz2 rfl Ad _ _ _ rfl (ho.out.alloc _) ⟨wr.heap.size,0,od⟩ 1 1 [_] rfl rfl (cell_one_new _ _ _) ?c2 ?c3 ?c4 ?c5 ?_)
   case c2=>intro u hu;simp at hu;subst hu;rfl
   case c3=>unfold maxLen;omega
   case c4=>omega
   case c5=>have:=hbw.out.grown.size;simp;omega
   intro v' w1 hown' hgrow _ hat
   have B9:Hid (E2 w w1 v v'):=hbw.out.trans (E2.from (Bh wr _) ⟨hgrow,by rcases hat with h|h;exact Or.inl h;exact Or.inr ⟨_,h,Ae⟩⟩)
   refine Osl ?_;intro hown2
   clear hown' hgrow hat
   exact Vup
def Z9(base:Nat)(w w':qq)(ov:tj)(e:mj):Option (List UInt8)->Prop
 | none=>(∃a m c,e=pd (fh #[cf a m c,gf vp]))/\w.grownBy w' ov.ownBlock
 | some o=>∃ov',e=pd (fh #[ov',gf s7])/\w'.ownsRow base 5 1 ov' o.length (A0 o)/\E2 w w' ov ov'
theorem Su{v:tj}{a b:Bool}(h:a=b):Ending.returned (fh #[v,gf a])=pd (fh #[v,gf b]):=by rw [h]
theorem Iw{w:qq}{base:Nat}{v:tj}{n:Nat}{xs:List tj}(h:w.ownsRow base 5 1 v n xs):∃a c,v=cf a n c:=by
 rcases h.2 with⟨e,h0⟩|⟨g,cap,cur,e,_⟩
 ·exact⟨od,0,by rw [e,h0]⟩
 ·exact⟨_,_,e⟩
theorem JK(w:qq)(ov:tj)(sg sh sz lo hi:Int)(tx:Bool)(fn:Int)(pa:Option zu)(pn pc:Nat)(vn:Int)(vs:ByteArray)(la:Option zu)(ln lc:Nat)(HF:Hid (∀W,ug w.heap.size w W->xi ly 200 #[Gl sg sh sz lo hi tx fn (cf pa pn pc),vv vn vs (cf la ln lc)] W fun e w'=>e=pd (gf vp)/\ug W.heap.size W w')) :
  xi ly 184 #[ov,Gl sg sh sz lo hi tx fn (cf pa pn pc),vv vn vs (cf la ln lc)] w fun e w'=>(∃a m c,e=pd (fh #[cf a m c,gf vp]))/\ug w.heap.size w w':=by
 go_enter oe,wi
 go_wp2_with (go_at_call 200;refine(HF.out _ (Ck _ _ _)).mono ?_;rintro e w1 ⟨rfl,B9⟩;have Cs:Hid (ug w.heap.size w w1):=(Ck _ _ _).trans (B9.mono Ag);clear B9)
 go_ret2
 exact⟨⟨_,_,_,rfl⟩,Cs.out⟩
theorem Abr(w:qq)(base:Nat)(ov:tj)(xs:List UInt8)(hx:xs.length<=4000)(Db:w.ownsRow base 5 1 ov xs.length (A0 xs))(Dx:base<=w.heap.size)(sg sz:Nat)(Di:sz<=8)(lo hi:Int)(tx:Bool)(fn:Nat)(pa:Option zu)(pn pc:Nat)(vn:Int)(vs:ByteArray)(la:Option zu)(lc:Nat)(HF:Hid (∀W,ug w.heap.size w W->xi ly 200 #[Gl sg 0 sz lo hi tx fn (cf pa pn pc),vv vn vs (cf la 0 lc)] W fun e w'=>e=pd (gf s7)/\ug W.heap.size W w')) :
  xi ly 184 #[ov,Gl sg 0 sz lo hi tx fn (cf pa pn pc),vv vn vs (cf la 0 lc)] w fun e w'=>∃ov',e=pd (fh #[ov',gf (decide ((xs++Orch.be vn sz).length<=1000))])/\w'.ownsRow base 5 1 ov' (xs++Orch.be vn sz).length (A0 (xs++Orch.be vn sz))/\E2 w w' ov ov':=by
 obtain⟨n0,n1⟩:=Mo w (ye #[rl dc sg,rl tz 0,rl tz sz,rl tz lo,rl tz hi,gf tx,rl dc fn,cf pa pn pc] 196) (ye #[rl tz vn,pt vs,cf la 0 lc] 164)
 have N0:=Bc n0
 have N1:=Bc n1
 have HO:=Bc Db
 clear n0 n1 Db
 have HAPP:Hid (∀W,ug w.heap.size w W->xi ly 131 #[ov,rl tz vn,rl tz sz] W fun e w'=>∃v',e=pd v'/\w'.ownsRow base 5 1 v' (xs++Orch.be vn sz).length (A0 (xs++Orch.be vn sz))/\E2 W w' ov v'):=fun W hb=>Sm W base ov vn sz xs Di (Ec HO.out hb) (aE Dx hb.size) Ab
 have hol:(xs++Orch.be vn sz).length<=4008:=by rw [aH,be_length];omega
 generalize xs++Orch.be vn sz=O at *
 go_enter oe,wi
 go_wp2_with (first
  | (go_at_call 200;refine(HF.out _ (Ck _ _ _)).mono ?_;rintro e w1 ⟨rfl,B9⟩;have Cs:Hid (ug w.heap.size w w1):=(Ck _ _ _).trans (B9.mono Ag);have m0:=(B9.block _ (ltOf N0.out)).trans N0.out;have m1:=(B9.block _ (ltOf N1.out)).trans N1.out;have a1:=cellOf (j:=1) m0 rfl;have a2:=cellOf (j:=2) m0 rfl;have b0:=cellOf (j:=0) m1 rfl;have M1:=Bc m1;clear B9 m0 m1)
  | (go_at_call 131;refine(HAPP.out _ Cs.out).mono ?_;rintro e w2 ⟨v',rfl,ho2,hout⟩;obtain⟨qa,qc,rfl⟩:=Iw ho2;have HO2:=Bc ho2;have HOUT:Hid (E2 w w2 ov (cf qa O.length qc)):=E2.from Cs.out hout;have g2:=cellOf (j:=2) (hout.keep M1.out (fun e=>by have:=(Dy HO.out e).2;omega)) rfl;clear ho2 hout))
 refine wp_loop_rounds 1 ?_
 rw [rounds_succ]
 go_wp2
 go_ret2
 exact⟨_,Su (by rw [dS];simp;omega),HO2.out,HOUT.out⟩
theorem Abs(w:qq)(base:Nat)(ov:tj)(xs:List UInt8)(hx:xs.length<=4000)(Db:w.ownsRow base 5 1 ov xs.length (A0 xs))(Dx:base<=w.heap.size)(sg sz:Nat)(lo hi:Int)(tx:Bool)(fn:Nat)(pa:Option zu)(pn pc:Nat)(vn:Int)(vs:ByteArray)(hvs:vs.size<=200)(la:Option zu)(lc:Nat)(HF:Hid (∀W,ug w.heap.size w W->xi ly 200 #[Gl sg 1 sz lo hi tx fn (cf pa pn pc),vv vn vs (cf la 0 lc)] W fun e w'=>e=pd (gf s7)/\ug W.heap.size W w')) :
  xi ly 184 #[ov,Gl sg 1 sz lo hi tx fn (cf pa pn pc),vv vn vs (cf la 0 lc)] w fun e w'=>∃ov',e=pd (fh #[ov',gf (decide ((xs++Orch.be vs.size 4).length+vs.size<=1000))])/\w'.ownsRow base 5 1 ov' ((xs++Orch.be vs.size 4).length+vs.size) (A0 (xs++Orch.be vs.size 4)++qv vs)/\E2 w w' ov ov':=by
 obtain⟨i0,hi0,hz0,hz1,hz2⟩:=info_parts Tryz.info5
 obtain⟨n0,n1⟩:=Mo w (ye #[rl dc sg,rl tz 1,rl tz sz,rl tz lo,rl tz hi,gf tx,rl dc fn,cf pa pn pc] 196) (ye #[rl tz vn,pt vs,cf la 0 lc] 164)
 have N0:=Bc n0
 have N1:=Bc n1
 have HO:=Bc Db
 clear n0 n1 Db
 have HAPP:Hid (∀W,ug w.heap.size w W->xi ly 131 #[ov,rl tz vs.size,rl tz 4] W fun e w'=>∃v',e=pd v'/\w'.ownsRow base 5 1 v' (xs++Orch.be vs.size 4).length (A0 (xs++Orch.be vs.size 4))/\E2 W w' ov v'):=fun W hb=>Sm W base ov vs.size 4 xs Ab (Ec HO.out hb) (aE Dx hb.size) Ab
 have hol:(xs++Orch.be vs.size 4).length<=4008/\4<=(xs++Orch.be vs.size 4).length:=by rw [aH,be_length];omega
 generalize xs++Orch.be vs.size 4=O at *
 obtain⟨hol1,hol2⟩:=hol
 go_enter oe,wi
 go_wp2_with (first
  | (at_builtin;refine Jr _ rfl _ _ 35 9 rfl base 5 i0 underlying35 underlying9 hi0 hz0 hz1 hz2 _ O.length ?hn (A0 O) rfl HO2.out vs rfl ?h63 ?hby ?hba ?_)
  | (go_at_call 200;refine(HF.out _ (Ck _ _ _)).mono ?_;rintro e w1 ⟨rfl,B9⟩;have Cs:Hid (ug w.heap.size w w1):=(Ck _ _ _).trans (B9.mono Ag);have m0:=(B9.block _ (ltOf N0.out)).trans N0.out;have m1:=(B9.block _ (ltOf N1.out)).trans N1.out;have a1:=cellOf (j:=1) m0 rfl;have b1:=cellOf (j:=1) m1 rfl;have M1:=Bc m1;clear B9 m0 m1)
  | (go_at_call 131;refine(HAPP.out _ Cs.out).mono ?_;rintro e w2 ⟨v',rfl,ho2,hout⟩;obtain⟨qa,qc,rfl⟩:=Iw ho2;have HO2:=Bc ho2;have HOUT0:=Bc hout;have HOUT:Hid (E2 w w2 ov (cf qa O.length qc)):=E2.from Cs.out hout;have M2:=Bc (hout.keep M1.out (fun e=>by have:=(Dy HO.out e).2;omega));have g1:=cellOf (j:=1) M2.out rfl;have hw2:Hid (base<=w2.heap.size):=aE Dx HOUT.out.grown.size;clear ho2 hout))
 case hn=>omega
 case h63=>unfold maxLen;omega
 case hby=>omega
 case hba=>exact hw2.out
 intro v3 w3 hown3 hout3
 obtain⟨ra,rc,rfl⟩:=Iw hown3
 have HO3:=Bc hown3
 have HOUT3:Hid (E2 w w3 ov _):=HOUT.out.trans hout3
 have k2:=cellOf (j:=2) (hout3.keep M2.out (fun e=>by
  rcases HOUT0.out.lies with h|⟨g,h,hg⟩
  ·rw [h] at e;have:=(Dy HO.out e).2;omega
  ·rw [h] at e
   have h1:g=w.heap.size+1:=by simpa using e
   have h2:=ltOf M1.out
   omega)) rfl
 clear hown3 hout3 g1 b1 a1
 go_wp2
 refine wp_loop_rounds 1 ?_
 rw [rounds_succ]
 go_wp2
 go_ret2
 exact⟨_,Su (by rw [dS];simp;omega),HO3.out,HOUT3.out⟩
def CQ(f:Nat->List UInt8->Option (List UInt8)):Nat->Nat->List UInt8->Option (List UInt8)
 | 0,_,o=>lp o
 | n+1,i,o=>match f i o with
  | none=>od
  | some o'=>CQ f n (i+1) o'
def PK(base:Nat)(w w':qq)(ov:tj)(e:mj):Option (List UInt8)->Prop
 | none=>(∃a m c,e=pd (fh #[cf a m c,gf vp]))/\w.grownBy w' ov.ownBlock
 | some o=>∃ov',e=pd (fh #[ov',gf (decide (o.length<=1000))])/\w'.ownsRow base 5 1 ov' o.length (A0 o)/\E2 w w' ov ov'
theorem Abt(w:qq)(base:Nat)(ov:tj)(xs:List UInt8)(hx:xs.length<=4000)(Db:w.ownsRow base 5 1 ov xs.length (A0 xs))(Dx:base<=w.heap.size)(sg sz:Nat)(lo hi:Int)(tx:Bool)(fn:Nat)(pa:Option zu)(pn pc:Nat)(vn:Int)(vs:ByteArray)(la:Option zu)(ln lc:Nat)(hln:ln<=64)(Bd:Nat)(hBd1:1000<=Bd)(hBd2:Bd<=1300)(O:List UInt8)(hO:O=xs++Orch.be ln 4)(f:Nat->List UInt8->Option (List UInt8))(TOT:Option (List UInt8))(hTOT:CQ f ln 0 O=TOT)(el:Nat->V)(ex:Nat->tj)(HEL:Hid (∀W,ug base w W->∀i,i<ln->∃(g:Nat) (xa:Option zu) (xm xc:Nat),la=lp ⟨g,0,od⟩/\g<W.heap.size/\ln<=lc/\ex i=cf xa xm xc/\W.cell? ⟨g,i * 3,od⟩=lp (rl tz (el i).n)/\W.cell? ⟨g,i * 3+1,od⟩=lp (pt (el i).s)/\W.cell? ⟨g,i * 3+2,od⟩=lp (ex i)))(pl:Nat->Lt)(ppt:Nat->qq->tj->Prop)(HPART:Hid (∀W,ug base w W->∀i,i<ln->xi ly 201 #[Gl sg 2 sz lo hi tx fn (cf pa pn pc),rl tz i] W fun e w'=>∃xa xm xc,e=pd (D7 (pl i) (cf xa xm xc))/\ppt i W (cf xa xm xc)/\ug W.heap.size W w'))(HPUT:Hid (∀W0 W,ug base w W0->ug W0.heap.size W0 W->∀i,i<ln->∀x,ppt i W0 x->∀(ou:tj) (ys:List UInt8),ys.length<=Bd->base<=W.heap.size->W.ownsRow base 5 1 ou ys.length (A0 ys)->xi ly 184 #[ou,D7 (pl i) x,vv (el i).n (el i).s (ex i)] W fun e w'=>Z9 base W w' ou e (f i ys)))(hf:∀i ys o,f i ys=lp o->o.length<=1000)(hOl:O.length<=Bd∨ln=0)(hOl2:O.length<=4008)(HF:Hid (∀W,ug w.heap.size w W->xi ly 200 #[Gl sg 2 sz lo hi tx fn (cf pa pn pc),vv vn vs (cf la ln lc)] W fun e w'=>e=pd (gf s7)/\ug W.heap.size W w')) :
  xi ly 184 #[ov,Gl sg 2 sz lo hi tx fn (cf pa pn pc),vv vn vs (cf la ln lc)] w fun e w'=>PK base w w' ov e TOT:=by
 have hTOT':=Bc hTOT
 obtain⟨n0,n1⟩:=Mo w (ye #[rl dc sg,rl tz 2,rl tz sz,rl tz lo,rl tz hi,gf tx,rl dc fn,cf pa pn pc] 196) (ye #[rl tz vn,pt vs,cf la ln lc] 164)
 have N0:=Bc n0
 have N1:=Bc n1
 have HO:=Bc Db
 have HFL:=Bc hf
 clear n0 n1 Db hTOT hf
 have HAPP:Hid (∀W,ug w.heap.size w W->xi ly 131 #[ov,rl tz ln,rl tz 4] W fun e w'=>∃v',e=pd v'/\w'.ownsRow base 5 1 v' O.length (A0 O)/\E2 W w' ov v'):=fun W hb=>by
  rw [hO]
  exact Sm W base ov ln 4 xs Ab (Ec HO.out hb) (aE Dx hb.size) Ab
 clear hO
 go_enter oe,wi
 go_wp2_with (first
  | (go_at_call 200;refine(HF.out _ (Ck _ _ _)).mono ?_;rintro e w1 ⟨rfl,B9⟩;have Cs:Hid (ug w.heap.size w w1):=(Ck _ _ _).trans (B9.mono Ag);have m0:=(B9.block _ (ltOf N0.out)).trans N0.out;have m1:=(B9.block _ (ltOf N1.out)).trans N1.out;have a1:=cellOf (j:=1) m0 rfl;have b2:=cellOf (j:=2) m1 rfl;have M0:=Bc m0;have M1:=Bc m1;clear B9 m0 m1)
  | (go_at_call 131;refine(HAPP.out _ Cs.out).mono ?_;rintro e wq ⟨v',rfl,ho2,hout⟩;obtain⟨qa,qc,rfl⟩:=Iw ho2;have HOS:=Bc ho2;have HOUTS:=Bc hout;have g2:=cellOf (j:=2) (hout.keep M1.out (fun e=>by have:=(Dy HO.out e).2;omega)) rfl;clear ho2 hout))
 go_loopw [0,48] (fun u0 i48 wr=>∃(i:Nat) (xr:List UInt8),i48=rl tz i/\i<=ln/\(xr.length<=Bd∨i=ln)/\xr.length<=4008/\Hid (CQ f (ln - i) i xr=TOT)/\Hid (wr.ownsRow base 5 1 u0 xr.length (A0 xr))/\Hid (E2 w1 wr ov u0))
  (fun _ i _=>ln - (intOf i).toNat)
 case atStart=>exact⟨0,O,rfl,cC _,Ab,hOl2,hTOT',HOS,HOUTS⟩
 case round=>
  obtain⟨i,xr,rfl,hi',hxr,hxr2,HG,HOR,HOUT⟩:=hrel
  obtain⟨qa,qc,hq⟩:=Iw HOR.out
  subst hq
  refine Zqg ?_;intro HOVLT HLOW1 HLOW
  by_cases Cg:i<ln
  ·have m0:=HOUT.out.keep M0.out (fun e=>by have:=(HOVLT.out _ e).2;omega)
   obtain⟨a0',a1',a2',a3',a4',a5',a6',a7'⟩:=KO 0 1 2 3 4 5 6 7 m0
   have hw1r:=ltOf m0
   have MR:=Bc m0
   obtain⟨g,xa,xm,xc,hla,hgl,hlc,hex,e0,e1,e2⟩:=HEL.out wr HLOW.out i Cg
   subst hla
   have HEX:=Bc hex
   rw [hex] at e2
   have hltz:(i:Int)<(ln:Int):=Ab
   have hlenx:xr.length<=Bd:=Ab
   have HGS:Hid (TOT=match f i xr with|none=>od|some o=>CQ f (ln - (i+1)) (i+1) o):=by
    show _=_
    rw [←HG.out,show ln - i=(ln - (i+1))+1 by omega,CQ]
   exact Esm
  ·exact Lmf
theorem Abu(w:qq)(base:Nat)(ov:tj)(xs:List UInt8)(hx:xs.length<=4000)(Db:w.ownsRow base 5 1 ov xs.length (A0 xs))(Dx:base<=w.heap.size)(sg sz:Nat)(lo hi:Int)(tx:Bool)(fn:Nat)(pa:Option zu)(pn pc:Nat)(vn:Int)(vs:ByteArray)(la:Option zu)(ln lc:Nat)(hln:ln<=64)(Bd:Nat)(hBd1:1000<=Bd)(hBd2:Bd<=1300)(O:List UInt8)(hO:O=xs)(f:Nat->List UInt8->Option (List UInt8))(TOT:Option (List UInt8))(hTOT:CQ f ln 0 O=TOT)(el:Nat->V)(ex:Nat->tj)(HEL:Hid (∀W,ug base w W->∀i,i<ln->∃(g:Nat) (xa:Option zu) (xm xc:Nat),la=lp ⟨g,0,od⟩/\g<W.heap.size/\ln<=lc/\ex i=cf xa xm xc/\W.cell? ⟨g,i * 3,od⟩=lp (rl tz (el i).n)/\W.cell? ⟨g,i * 3+1,od⟩=lp (pt (el i).s)/\W.cell? ⟨g,i * 3+2,od⟩=lp (ex i)))(pl:Nat->Lt)(ppt:Nat->qq->tj->Prop)(HPART:Hid (∀W,ug base w W->∀i,i<ln->xi ly 201 #[Gl sg 3 sz lo hi tx fn (cf pa pn pc),rl tz i] W fun e w'=>∃xa xm xc,e=pd (D7 (pl i) (cf xa xm xc))/\ppt i W (cf xa xm xc)/\ug W.heap.size W w'))(HPUT:Hid (∀W0 W,ug base w W0->ug W0.heap.size W0 W->∀i,i<ln->∀x,ppt i W0 x->∀(ou:tj) (ys:List UInt8),ys.length<=Bd->base<=W.heap.size->W.ownsRow base 5 1 ou ys.length (A0 ys)->xi ly 184 #[ou,D7 (pl i) x,vv (el i).n (el i).s (ex i)] W fun e w'=>Z9 base W w' ou e (f i ys)))(hf:∀i ys o,f i ys=lp o->o.length<=1000)(hOl:O.length<=Bd∨ln=0)(hOl2:O.length<=4008)(HF:Hid (∀W,ug w.heap.size w W->xi ly 200 #[Gl sg 3 sz lo hi tx fn (cf pa pn pc),vv vn vs (cf la ln lc)] W fun e w'=>e=pd (gf s7)/\ug W.heap.size W w')) :
  xi ly 184 #[ov,Gl sg 3 sz lo hi tx fn (cf pa pn pc),vv vn vs (cf la ln lc)] w fun e w'=>PK base w w' ov e TOT:=by
 have hTOT':=Bc hTOT
 obtain⟨n0,n1⟩:=Mo w (ye #[rl dc sg,rl tz 3,rl tz sz,rl tz lo,rl tz hi,gf tx,rl dc fn,cf pa pn pc] 196) (ye #[rl tz vn,pt vs,cf la ln lc] 164)
 have N0:=Bc n0
 have N1:=Bc n1
 have HO:=Bc Db
 have HFL:=Bc hf
 clear n0 n1 Db hTOT hf
 go_enter oe,wi
 go_wp2_with (first
  | (go_at_call 200;refine(HF.out _ (Ck _ _ _)).mono ?_;rintro e w1 ⟨rfl,B9⟩;have Cs:Hid (ug w.heap.size w w1):=(Ck _ _ _).trans (B9.mono Ag);have m0:=(B9.block _ (ltOf N0.out)).trans N0.out;have m1:=(B9.block _ (ltOf N1.out)).trans N1.out;have a1:=cellOf (j:=1) m0 rfl;have b2:=cellOf (j:=2) m1 rfl;have M0:=Bc m0;have M1:=Bc m1;clear B9 m0 m1))
 have HOS:Hid (w1.ownsRow base 5 1 ov O.length (A0 O)):=by
  show World.ownsRow _ _ _ _ _ _ _
  rw [hO]
  exact Ec HO.out Cs.out
 have HOUTS:Hid (E2 w1 w1 ov ov):=E2.refl _ _
 clear hO
 go_loopw [0,48] (fun u0 i48 wr=>∃(i:Nat) (xr:List UInt8),i48=rl tz i/\i<=ln/\(xr.length<=Bd∨i=ln)/\xr.length<=4008/\Hid (CQ f (ln - i) i xr=TOT)/\Hid (wr.ownsRow base 5 1 u0 xr.length (A0 xr))/\Hid (E2 w1 wr ov u0))
  (fun _ i _=>ln - (intOf i).toNat)
 case atStart=>exact⟨0,O,rfl,cC _,Ab,hOl2,hTOT',HOS,HOUTS⟩
 case round=>
  obtain⟨i,xr,rfl,hi',hxr,hxr2,HG,HOR,HOUT⟩:=hrel
  obtain⟨qa,qc,hq⟩:=Iw HOR.out
  subst hq
  refine Zqg ?_;intro HOVLT HLOW1 HLOW
  by_cases Cg:i<ln
  ·have m0:=HOUT.out.keep M0.out (fun e=>by have:=(HOVLT.out _ e).2;omega)
   obtain⟨a0',a1',a2',a3',a4',a5',a6',a7'⟩:=KO 0 1 2 3 4 5 6 7 m0
   have hw1r:=ltOf m0
   have MR:=Bc m0
   obtain⟨g,xa,xm,xc,hla,hgl,hlc,hex,e0,e1,e2⟩:=HEL.out wr HLOW.out i Cg
   subst hla
   have HEX:=Bc hex
   rw [hex] at e2
   have hltz:(i:Int)<(ln:Int):=Ab
   have hlenx:xr.length<=Bd:=Ab
   have HGS:Hid (TOT=match f i xr with|none=>od|some o=>CQ f (ln - (i+1)) (i+1) o):=by
    show _=_
    rw [←HG.out,show ln - i=(ln - (i+1))+1 by omega,CQ]
    all_goals (cases f i xr <;> rfl)
   exact Esm
  ·exact Lmf
def zV:V:=.mk 0 ⟨#[]⟩ []
theorem Zo(g:List UInt8->Ty->V->Option (List UInt8))(t:Ty)(vs:List V):∀n i o,n+i=vs.length ->
  CQ (fun i ys=>g ys (Orch.part t i) (vs.getD i zV)) n i o=Orch.putE g t (vs.drop i) i o:=by
 intro n
 induction n with
 | zero=>intro i o h;rw [dU Ab];rfl
 | succ n ih=>
  intro i o h
  have hi:i<vs.length:=Ab
  rw [CQ,eG hi,Orch.putE,I3 _ _ _ hi]
  cases g o (Orch.part t i) vs[i] with
  | none=>rfl
  | some o'=>exact ih (i+1) o' Ab
theorem put_len(valid:ByteArray->Bool):∀k xs t v o,Orch.put valid k xs t v=lp o->o.length<=1000:=by
 intro k
 cases k with
 | zero=>intro xs t v o h;simp [Orch.put] at h
 | succ k=>
  intro xs t v o h
  unfold Orch.put at h
  exact Ikj
theorem Er.fam{w:qq}{S:Nat->Prop}{vs:List V}{v:tj}(h:Er w S vs v):∃ex:Nat->tj,∀i (hi:i<vs.length),
  ∃g cap,v=cf (lp ⟨g,0,od⟩) vs.length cap/\vs.length<=cap/\S g/\Er w S vs[i].l (ex i)/\∀j u,(Fe (vs[i],ex i))[j]? = lp u->w.cell? ⟨g,i * 3+j,od⟩=lp u:=by
 cases h with
 | nil a c=>exact⟨fun _=>cf od 0 0,fun i hi=>by simp at hi⟩
 | row ps g cap h0 Ea hS hc hr=>
  refine⟨fun i=>(ps.getD i (zV,cf od 0 0)).2,fun i hi=>?_⟩
  have hi':i<ps.length:=by simpa using hi
  have eg:ps.getD i (zV,cf od 0 0)=ps[i]:=I3 _ _ _ hi'
  simp only [eg]
  refine⟨g,cap,by rw [bN],by rw [bN];exact Ea,hS,?_,fun j u hu=>?_⟩
  ·rw [eA];exact hr _ (dF hi')
  ·refine hc _ u ?_
   have hj:j<3:=by
    have:=(aW.1 hu).1
    rwa [Wp] at this
   rw [P3 Fe 3 Wp ps i j hj,aR hi',cW]
   rw [eA] at hu
   exact hu
def BN(valid:ByteArray->Bool)(Tabs:qq->Prop)(k:Nat):Prop:=∀(w:qq),Tabs w->∀(base:Nat),XW<=base->base<=w.heap.size->∀(t:Ty),Vp k t->∀(psv:tj),El w (fun b=>b<base) t.ps psv->∀(v:V) (lv:tj),Er w (fun b=>b<base) v.l lv->∀(ov:tj) (xs:List UInt8),xs.length<=1000+4 * (10 - k)->w.ownsRow base 5 1 ov xs.length (A0 xs) ->
 xi ly 184 #[ov,D7 t.l psv,AU v lv] w fun e w'=>Z9 base w w' ov e (Orch.put valid k xs t v)
theorem Ud{w w':qq}{r:Option Nat}(h:ug w.heap.size w w'):w.grownBy w' r:=⟨h.os,h.tape,h.output,h.size,fun k hk _=>h.block k hk⟩
def SQ:Option (List UInt8)->Option (List UInt8)
 | none=>od
 | some o=>if o.length<=1000 then lp o else od
theorem put_eq(valid:ByteArray->Bool)(k:Nat)(xs:List UInt8)(t:Ty)(v:V):Orch.put valid (k+1) xs t v=if fits valid t v then SQ (Orch.putE (Orch.put valid k) t v.l 0 (xs++head t v)) else od:=by
 rw [Orch.put]
 split
 ·cases Orch.putE (Orch.put valid k) t v.l 0 (xs++head t v) <;> rfl
 ·rfl
theorem Xz{base:Nat}{w w':qq}{ov:tj}{e:mj}{o:Option (List UInt8)}(h:PK base w w' ov e o) :
  Z9 base w w' ov e (SQ o):=by
 cases o with
 | none=>exact h
 | some o=>
  obtain⟨ov',rfl,ho,hout⟩:=h
  by_cases hl:o.length<=1000
  ·rw [SQ,aQ hl,decide_eq_true hl]
   exact⟨ov',rfl,ho,hout⟩
  ·rw [SQ,aO hl,decide_eq_false hl]
   obtain⟨a,c,rfl⟩:=Iw ho
   exact⟨⟨_,_,_,rfl⟩,hout.grown⟩
section
variable {valid:ByteArray->Bool} {Tabs:qq->Prop}
theorem UG(U:Jk valid Tabs)(k:Nat)(hk:k+1<=9)(ih:BN valid Tabs k):BN valid Tabs (k+1):=by
 intro w hT base hb3 Dx t E6 psv hts v lv hvs ov xs hxl Db
 obtain⟨pa,pc,rfl⟩:=hts.shape
 obtain⟨la,lc,rfl⟩:=hvs.shape
 have hF:∀W,ug w.heap.size w W->xi ly 200 #[D7 t.l (cf pa t.ps.length pc),AU v (cf la v.l.length lc)] W fun e w'=>e=pd (gf (fits valid t v))/\ug W.heap.size W w':=fun W hb=>Ua U W (U.kept (U.size hT) hb hT) t E6 pa pc v la lc
 rw [put_eq]
 cases hfit:fits valid t v with
 | false=>
  rw [hfit] at hF
  simp only [aV,bQ]
  refine(JK w ov _ _ _ _ _ _ _ pa _ pc _ _ la _ lc hF).mono ?_
  rintro e w' ⟨hn,hb⟩
  exact⟨hn,Ud hb⟩
 | true=>
  rw [hfit] at hF
  simp only [bC]
  have hlow:∀W,ug base w W->Tabs W:=fun W h=>U.kept hb3 h hT
  rcases Lj E6.1 with h|h|h|h
  ·have hl0:v.l = []:=by
    simp only [fits,h,bD,decide_eq_true_eq] at hfit
    exact bP.1 hfit.2
   have hhead:head t v=Orch.be v.n t.l.size:=by simp [head,h]
   have Di:=P8 E6.1 h
   rw [hhead,hl0,Orch.putE]
   rw [hl0] at hF
   simp only [D7,h,aI] at hF ⊢
   refine(Abr w base ov xs Ab Db Dx _ _ Ab _ _ _ _ pa _ pc _ _ la lc hF).mono ?_
   rintro e w' ⟨ov',rfl,ho,hout⟩
   exact Xz (o:=lp (xs++Orch.be v.n t.l.size)) ⟨ov',rfl,ho,hout⟩
  ·have hfit':=hfit
   simp only [fits,h,bD,decide_eq_true_eq] at hfit'
   have hl0:v.l = []:=bP.1 hfit'.2
   have hs200:v.s.size<=200:=hfit'.1.2.1
   have hhead:head t v=Orch.be v.s.size 4++v.s.data.toList:=by simp [head,h]
   rw [hhead,hl0,Orch.putE]
   rw [hl0] at hF
   simp only [D7,h,aI] at hF ⊢
   refine(Abs w base ov xs Ab Db Dx _ _ _ _ _ _ pa _ pc _ _ hs200 la lc hF).mono ?_
   rintro e w' ⟨ov',rfl,ho,hout⟩
   have hlen:(xs++(Orch.be v.s.size 4++v.s.data.toList)).length=(xs++Orch.be v.s.size 4).length+v.s.size:=by
    rw [←bM,aH,←Lib.size_eq]
   refine Xz (o:=lp (xs++(Orch.be v.s.size 4++v.s.data.toList))) ⟨ov',by rw [hlen],?_,hout⟩
   rw [hlen,←bM,I2]
   exact ho
  ·have hfit':=hfit
   simp only [fits,h,bD,decide_eq_true_eq] at hfit'
   have hll:v.l.length<=32:=hfit'.2
   have hhead:head t v=Orch.be v.l.length 4:=by simp [head,h]
   obtain⟨ex,hex⟩:=hvs.fam
   have hg:=Zo (Orch.put valid k) t v.l v.l.length 0 (xs++Orch.be v.l.length 4) Ab
   rw [List.drop_zero] at hg
   rw [hhead]
   have hO:(xs++Orch.be v.l.length 4).length=xs.length+4:=by rw [aH,be_length]
   have hpart:∀W,ug base w W->∀i,i<v.l.length->xi ly 201 #[D7 t.l (cf pa t.ps.length pc),rl tz i] W fun e w'=>∃xa xm xc,e=pd (D7 (Orch.part t i).l (cf xa xm xc))/\El W (fun b=>b<base) (Orch.part t i).ps (cf xa xm xc)/\ug W.heap.size W w':=fun W hb i hi=>
    (Uu W (fun b=>b<base) t E6 _ (hts.congr (fun _ h'=>h') (fun b Es=>hb.block b Es)) (fun b Es=>aB Es (aE Dx hb.size)) i (Or.inl h)).mono (by
     rintro e w' ⟨x,rfl,hx,Es⟩
     obtain⟨xa,xc,rfl⟩:=hx.shape
     exact⟨xa,_,xc,rfl,hx,Es⟩)
   simp only [D7,h] at hF hpart ⊢
   refine(Abt w base ov xs Ab Db Dx _ _ _ _ _ _ pa _ pc v.n v.s la v.l.length lc Ab (1000+4 * (10 - k)) Ab Ab (xs++Orch.be v.l.length 4) rfl (fun i ys=>Orch.put valid k ys (Orch.part t i) (v.l.getD i zV)) _ hg
    (fun i=>v.l.getD i zV) ex (fun W hb i hi=>?_) (fun i=>(Orch.part t i).l) (fun i W x=>El W (fun b=>b<base) (Orch.part t i).ps x) hpart
    (fun W0 W hb0 hbW i hi x hx ou ys hys hbs hoy=>?_) (fun i ys o ho=>put_len valid _ _ _ _ _ ho) (Or.inl Ab) Ab hF).mono (fun e w' he=>Xz he)
   ·exact Uej
   ·obtain⟨g,cap,hla,hlc,hgb,hxs,Ee⟩:=hex i hi
    refine Iqv ?_;intro hbw hv'
    exact ih W (hlow W hbw) base hb3 hbs (Orch.part t i) (Xw E6 i (Or.inl h)) x (hx.congr (fun _ h'=>h') (fun b Es=>hbW.block b (aB Es (aE Dx hb0.size)))) _ _ hv' ou ys hys hoy
  ·have hfit':=hfit
   simp only [fits,h,bD,decide_eq_true_eq] at hfit'
   have hll:v.l.length=t.ps.length:=hfit'.2
   have h64:=E6.2.2.1
   have hhead:head t v = []:=by simp [head,h]
   obtain⟨ex,hex⟩:=hvs.fam
   have hg:=Zo (Orch.put valid k) t v.l v.l.length 0 xs Ab
   rw [List.drop_zero] at hg
   rw [hhead,bU]
   have hpart:∀W,ug base w W->∀i,i<v.l.length->xi ly 201 #[D7 t.l (cf pa t.ps.length pc),rl tz i] W fun e w'=>∃xa xm xc,e=pd (D7 (Orch.part t i).l (cf xa xm xc))/\El W (fun b=>b<base) (Orch.part t i).ps (cf xa xm xc)/\ug W.heap.size W w':=fun W hb i hi=>
    (Uu W (fun b=>b<base) t E6 _ (hts.congr (fun _ h'=>h') (fun b Es=>hb.block b Es)) (fun b Es=>aB Es (aE Dx hb.size)) i (Or.inr ⟨h,Ab⟩)).mono (by
     rintro e w' ⟨x,rfl,hx,Es⟩
     obtain⟨xa,xc,rfl⟩:=hx.shape
     exact⟨xa,_,xc,rfl,hx,Es⟩)
   simp only [D7,h] at hF hpart ⊢
   refine(Abu w base ov xs Ab Db Dx _ _ _ _ _ _ pa _ pc v.n v.s la v.l.length lc Ab (1000+4 * (10 - k)) Ab Ab xs rfl (fun i ys=>Orch.put valid k ys (Orch.part t i) (v.l.getD i zV)) _ hg
    (fun i=>v.l.getD i zV) ex (fun W hb i hi=>?_) (fun i=>(Orch.part t i).l) (fun i W x=>El W (fun b=>b<base) (Orch.part t i).ps x) hpart
    (fun W0 W hb0 hbW i hi x hx ou ys hys hbs hoy=>?_) (fun i ys o ho=>put_len valid _ _ _ _ _ ho) (Or.inl Ab) Ab hF).mono (fun e w' he=>Xz he)
   ·exact Uej
   ·obtain⟨g,cap,hla,hlc,hgb,hxs,Ee⟩:=hex i hi
    refine Iqv ?_;intro hbw hv'
    exact ih W (hlow W hbw) base hb3 hbs (Orch.part t i) (Xw E6 i (Or.inr ⟨h,Ab⟩)) x (hx.congr (fun _ h'=>h') (fun b Es=>hbW.block b (aB Es (aE Dx hb0.size)))) _ _ hv' ou ys hys hoy
theorem YU(U:Jk valid Tabs):∀k,k<=9->BN valid Tabs k:=by
 intro k
 induction k with
 | zero=>intro _ w _ base _ _ t E6;exact absurd E6 (by simp [Vp])
 | succ k ih=>intro h;exact UG U k h (ih Ab)
end
def WK(w w':qq)(e:mj):Option (List UInt8)->Prop
 | none=>e=pd (fh #[cf od 0 0,gf vp])
 | some o=>∃ov,e=pd (fh #[ov,gf s7])/\w'.ownsRow w.heap.size 5 1 ov o.length (A0 o)
theorem VB(w:qq)(sg sh sz:Nat)(lo hi:Int)(tx:Bool)(fn:Nat)(pa:Option zu)(pn pc:Nat)(vn:Int)(vs:ByteArray)(la:Option zu)(ln lc:Nat)(HP:Hid (∀W,ug w.heap.size w W->xi ly 184 #[cf od 0 0,Gl sg sh sz lo hi tx fn (cf pa pn pc),vv vn vs (cf la ln lc)] W fun e w'=>(∃a m c,e=pd (fh #[cf a m c,gf vp]))/\ug W.heap.size W w')) :
  xi ly 156 #[Gl sg sh sz lo hi tx fn (cf pa pn pc),vv vn vs (cf la ln lc)] w fun e w'=>WK w w' e od/\ug w.heap.size w w':=by
 go_enter func156,ntmps156
 go_wp2_with (go_at_call 184;refine(HP.out _ (Ck _ _ _)).mono ?_;rintro e w1 ⟨⟨a,m,c,rfl⟩,B9⟩;have Cs:Hid (ug w.heap.size w w1):=(Ck _ _ _).trans (B9.mono Ag);clear B9)
 go_ret2
 exact⟨rfl,Cs.out⟩
theorem VD(w:qq)(sg sh sz:Nat)(lo hi:Int)(tx:Bool)(fn:Nat)(pa:Option zu)(pn pc:Nat)(vn:Int)(vs:ByteArray)(la:Option zu)(ln lc:Nat)(q:tj->qq->Prop)(HP:Hid (∀W,ug w.heap.size w W->xi ly 184 #[cf od 0 0,Gl sg sh sz lo hi tx fn (cf pa pn pc),vv vn vs (cf la ln lc)] W fun e w'=>(∃ov,e=pd (fh #[ov,gf s7])/\q ov w')/\ug W.heap.size W w')) :
  xi ly 156 #[Gl sg sh sz lo hi tx fn (cf pa pn pc),vv vn vs (cf la ln lc)] w fun e w'=>(∃ov,e=pd (fh #[ov,gf s7])/\q ov w')/\ug w.heap.size w w':=by
 go_enter func156,ntmps156
 go_wp2_with (go_at_call 184;refine(HP.out _ (Ck _ _ _)).mono ?_;rintro e w1 ⟨⟨ov,rfl,hq⟩,B9⟩;have HQ:=Bc hq;have Cs:Hid (ug w.heap.size w w1):=(Ck _ _ _).trans (B9.mono Ag);clear B9 hq)
 go_ret2
 exact⟨⟨_,rfl,HQ.out⟩,Cs.out⟩
section
variable {valid:ByteArray->Bool} {Tabs:qq->Prop}
theorem QO(U:Jk valid Tabs)(w:qq)(hT:Tabs w)(t:Ty)(E6:Vp 9 t)(S:Nat->Prop)(psv:tj)(hts:El w S t.ps psv)(v:V)(lv:tj)(hvs:Er w S v.l lv)(hS:∀b,S b->b<w.heap.size) :
  xi ly 156 #[D7 t.l psv,AU v lv] w fun e w'=>WK w w' e (Orch.put valid 9 [] t v)/\ug w.heap.size w w':=by
 obtain⟨pa,pc,rfl⟩:=hts.shape
 obtain⟨la,lc,rfl⟩:=hvs.shape
 have hp:∀W,ug w.heap.size w W->xi ly 184 #[cf od 0 0,D7 t.l (cf pa t.ps.length pc),AU v (cf la v.l.length lc)] W fun e w'=>Z9 W.heap.size W w' (cf od 0 0) e (Orch.put valid 9 [] t v):=fun W hb=>
  YU U 9 Ab W (U.kept (U.size hT) hb hT) W.heap.size (aE (U.size hT) hb.size) (aA _) t E6 _ (hts.congr (fun b h=>aB (hS b h) hb.size) (fun b h=>hb.block b (hS b h))) v _ (hvs.congr (fun b h=>aB (hS b h) hb.size) (fun b h=>hb.block b (hS b h))) _ [] Ae (vf _ _ _ _)
 cases hq:Orch.put valid 9 [] t v with
 | none=>
  rw [hq] at hp
  refine VB w _ _ _ _ _ _ _ pa _ pc _ _ la _ lc (fun W hb=>(hp W hb).mono ?_)
  rintro e w' ⟨he,hg⟩
  exact⟨he,hg.os,hg.tape,hg.output,hg.size,fun k hk=>hg.block k hk (by simp [Value.ownBlock])⟩
 | some o=>
  rw [hq] at hp
  refine(VD w _ _ _ _ _ _ _ pa _ pc _ _ la _ lc (fun ov w'=>w'.ownsRow w.heap.size 5 1 ov o.length (A0 o)) (fun W hb=>(hp W hb).mono ?_)).mono (fun e w' h=>h)
  rintro e w' ⟨ov,rfl,ho,hout⟩
  have hg:=hout.grown
  refine⟨⟨ov,rfl,⟨ho.1,?_⟩⟩,hg.os,hg.tape,hg.output,hg.size,fun k hk=>hg.block k hk (by simp [Value.ownBlock])⟩
  rcases ho.2 with h|⟨g,cap,cur,h1,h2,h3⟩
  ·exact Or.inl h
  ·exact Or.inr ⟨g,cap,cur,h1,aE hb.size h2,h3⟩
end
end Go.Proofs.YtjoblhlkfmeckaaGreatDoor

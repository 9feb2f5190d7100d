import Derived.Test.YtjoblhlkfmeckaaGreatDoorQ09
import Derived.Laws.BytesArg
import Derived.BigQuiet
import Derived.Deep.QuietTactic
set_option maxHeartbeats 2000000
set_option maxRecDepth 8000
set_option linter.unusedVariables false
set_option linter.unusedSimpArgs false
open Option renaming none → od,some → lp
open Bool renaming false → vp,true → s7
open Go renaming World → qq,Value → tj,heap_setCell_same → dq,Calls → xi,bodyPost_ret → zg,heap_alloc_new → tw,setRow_heap → fg
open Go.Lib renaming size_eq → qy
open Prod renaming fst → xo
open Go.Value renaming slice → cf,oneCell' → uu,int → rl,string → pt,bool → gf,tuple → fh
open Go.Ending.returned renaming injEq → ax
open Go.Value.tuple renaming injEq → jj
open Go.Value.bool renaming injEq → pz
open Go.Obj renaming cells → ye
open Go.IntKind renaming i64 → tz,u8 → dc
open Go.Ending renaming returned → pd
open Go.Proofs.Tryz Orch
theorem V26{p:Prop}(h:p:=by
 have s1:=B9.size
 have s2:=Fs.size
 have s3:=hgr.size
 refine⟨by rw [aH,List.flatMap_append];simpa using hown3,?_,?_⟩
 ·intro p hp
  rw [cH] at hp
  rcases hp with hp|hp
  ·refine(hps p hp).congr (fun b ⟨h1,h2,h3⟩=>⟨h1,Ab,?_⟩) (fun b ⟨h1,h2,h3⟩=>?_)
   ·intro he
    have he':g=b:=by simpa [Value.ownBlock] using he
    subst he'
    rcases hat with h|h
    ·exact h3 h
    ·omega
   ·rw [hgr.block b Ab (fun e=>h3 e.symm),Fs.block b Ab,B9.block b h2]
  ·obtain rfl:p=(t,x):=by simpa using hp
   refine hx.congr (fun b ⟨h1,h2⟩=>⟨Ab,Ab,?_⟩) (fun b ⟨h1,h2⟩=>?_)
   ·intro he
    have he':g=b:=by simpa [Value.ownBlock] using he
    subst he'
    rcases hat with h|h
    ·have:=(Dy Db h).2;omega
    ·omega
   ·rw [hgr.block b Ab (fun e=>by have:=(Dy Db e.symm).2;omega),Fs.block b h2]
 ·exact((B9.mono Dx).trans (Fs.mono Ab)).grown hgr Ab (fun k hk=>(Dy Db hk).1)):p:=h
theorem X6s{p:Prop}(h:p:=by
 simp only [aL,bH] at h
 obtain⟨rfl,rfl⟩:=h
 simp):p:=h
theorem Crk{p q:Prop}(k:q)(h:Hd q->p:=by
 intro kz
 obtain⟨n0,n1⟩:=Mo w (.cells #[.int .u8 sg,.int .i64 sh,.int .i64 sz,.int .i64 lo,.int .i64 hi,.bool tx,.int .u8 fn,.slice pa pn pc] 196) (.cells #[.int .i64 0,.string ⟨#[]⟩,.slice none 0 0] 164)
 revert n0 n1
 exact kz.1):p:=h ⟨k⟩
theorem G7y{p q:Prop}(k:q)(h:Hd q->p:=by
 intro kz
 refine Gt (fun X=>X.heap[w.heap.size]? = some (.cells #[.int .u8 0,.int .i64 0,.int .i64 0,.int .i64 0,.int .i64 0,.bool false,.int .u8 0,.slice none 0 0] 196)/\Below w.heap.size w X) ⟨setRow_heap _ _ _ _ _ _ HH2.out,Ci (Cs.out.alloc Cs.out.size _) (aA _) _⟩ ?_
 exact kz.1):p:=h ⟨k⟩
theorem Ks3{p q:Prop}(k:q)(h:Hd q->p:=by
 intro kz
 have HF:=J7 (w.alloc (.cells #[.int .u8 0,.int .i64 0,.int .i64 0,.int .i64 0,.int .i64 0,.bool false,.int .u8 0,.slice none 0 0] 196)) HT1.out s[0]
 revert HF
 exact kz.1):p:=h ⟨k⟩
theorem Yxi{p q:Prop}(k:q)(h:Hd q->p:=by
 intro kz
 have Cu:¬s.toList = []:=fun h=>by have:=(toList_nil s).1 h;omega
 have hnB:(s.toList == [])=false:=by simpa using Cu
 have hpz:(0:Int)<(s.size:Int):=Ab
 have HT1:Hid (Table (w.alloc (.cells #[.int .u8 0,.int .i64 0,.int .i64 0,.int .i64 0,.int .i64 0,.bool false,.int .u8 0,.slice none 0 0] 196))):=hT.below (Bh _ _) hT.pos
 revert Cu hnB hpz HT1
 exact kz.1):p:=h ⟨k⟩
theorem Mh1{p q:Prop}(k:q)(h:Hd q->p:=by
 intro kz
 have N0:=Bc (heap_alloc_new w (.cells #[.int .u8 0,.int .i64 0,.int .i64 0,.int .i64 0,.int .i64 0,.bool false,.int .u8 0,.slice none 0 0] 196))
 revert N0
 exact kz.1):p:=h ⟨k⟩
theorem V4q{p:Prop}(h:p:=by
 rcases HO.out.2 with⟨e,h⟩|⟨g,cap,cur,e,_⟩
 ·exact⟨none,0,by rw [e,h]⟩
 ·exact⟨_,_,e⟩):p:=h
theorem Owq{p:Prop}(h:p:=by
 go_wp2
 go_region
 all_goals go_wp2
 all_goals go_ret3
 all_goals exact⟨by rw [HR.out];rfl,by first|exact HB.out|exact HB.out.drew⟩):p:=h
theorem Zdo{p:Prop}(h:p:=by
 go_enter Tryz.func168,Tryz.ntmps168
 go_wp2
 exact bodyPost_ret (v:=.tuple #[Gl 0 0 0 0 0 false 0 (.slice none 0 0),.string ⟨#[]⟩,.bool false]) (by simp [results,Tryz.results168,go_sem]) rfl ⟨⟨_,_,_,_,_,_,_,_,_,_,_,rfl⟩,Bh _ _⟩):p:=h
theorem P2e{p:Prop}(h:p:=by
 refine G7y ?_
 rintro X ⟨HQ,hbX⟩
 obtain⟨c0,c1,c2,c3,c4,c5,c6,c7⟩:=KO 0 1 2 3 4 5 6 7 HQ
 exact bodyPost_ret (v:=.tuple #[Gl 0 0 0 0 0 false 0 (.slice none 0 0),.bool false]) (by simp [results,Tryz.results121,go_sem,c0,c1,c2,c3,c4,c5,c6,c7]) rfl ⟨⟨_,_,_,_,_,_,_,_,_,_,rfl⟩,hbX⟩):p:=h
theorem Ha3{p:Prop}(h:p:=by
 have HR:Hid (TOT=some (ps.map Prod.fst,(sr.extract 1 sr.size).data.toList)):=by
  show _=_
  rw [HN.out,aO Ab]
 clear HN hz h2
 go_wp2
 go_region
 all_goals go_wp2
 all_goals go_region
 all_goals go_wp2
 all_goals go_ret3
 all_goals exact⟨by rw [HR.out];exact⟨_,_,rfl,rfl,HD.out _ rfl⟩,by first|exact HB.out.drew.drew|exact HB.out.drew⟩):p:=h
namespace Go.Proofs.YtjoblhlkfmeckaaGreatDoor
open Go.RowKit
def Ii:Array tj:=#[rl dc 63,rl tz 0,rl tz 1,rl tz 0,rl tz 1,gf vp,rl dc 0,
 rl dc 52,rl tz 0,rl tz 4,rl tz (-2147483648),rl tz 2147483647,gf vp,rl dc 0,
 rl dc 56,rl tz 0,rl tz 8,rl tz (-9223372036854775808),rl tz 9223372036854775807,gf vp,rl dc 0,
 rl dc 98,rl tz 1,rl tz 0,rl tz 0,rl tz 0,gf vp,rl dc 0,
 rl dc 116,rl tz 1,rl tz 0,rl tz 0,rl tz 0,gf s7,rl dc 0,
 rl dc 91,rl tz 2,rl tz 0,rl tz 0,rl tz 0,gf vp,rl dc 93,
 rl dc 40,rl tz 3,rl tz 0,rl tz 0,rl tz 0,gf vp,rl dc 41]
def Table(w:qq):Prop:=∃t fr,w.heap[5]? = lp (ye Ii t fr)
theorem Table.below{B:Nat}{w w':qq}(h:Table w)(hb:Below B w w')(hB:6<=B):Table w':=by
 obtain⟨t,fr,h⟩:=h
 exact⟨t,fr,(hb.block 5 Ab).trans h⟩
theorem ix(k:Nat)(l:Lt)(hk:letters[k]? = lp l):∀w,(Instr.index 289 (.agg Ii) (rl tz k)).run prog w=.ok (CY l) w:=by
 match k,hk with
 | 0,hk=>simp [letters] at hk;subst hk;intro w;kernel_rfl
 | 1,hk=>simp [letters] at hk;subst hk;intro w;kernel_rfl
 | 2,hk=>simp [letters] at hk;subst hk;intro w;kernel_rfl
 | 3,hk=>simp [letters] at hk;subst hk;intro w;kernel_rfl
 | 4,hk=>simp [letters] at hk;subst hk;intro w;kernel_rfl
 | 5,hk=>simp [letters] at hk;subst hk;intro w;kernel_rfl
 | 6,hk=>simp [letters] at hk;subst hk;intro w;kernel_rfl
theorem Tryz.size193:(prog.info? 193).map (·.size)=lp 7:=Aa
theorem Tryz.size196:(prog.info? 196).map (·.size)=lp 8:=Aa
theorem Tryz.size164:(prog.info? 164).map (·.size)=lp 3:=Aa
theorem OQ(a b c d e:Int)(f:Bool)(g:Int):(#[Value.int dc a,rl tz b,rl tz c,rl tz d,rl tz e,gf f,rl dc g].all (·.oneCell'))=s7:=by simp [uu]
theorem Up(a b c d e:Int)(f:Bool)(g:Int)(x:Option Addr)(n m:Nat):(#[Value.int dc a,rl tz b,rl tz c,rl tz d,rl tz e,gf f,rl dc g,cf x n m].all (·.oneCell'))=s7:=by simp [uu]
theorem Ly(a:Int)(s:ByteArray)(x:Option Addr)(n m:Nat):(#[Value.int tz a,pt s,cf x n m].all (·.oneCell'))=s7:=by simp [uu]
theorem Ci{B:Nat}{a w:qq}(h:Below B a w){g:Nat}(hg:B<=g)(cs:Array tj):Below B a (w.setRow g cs):=
 h.trans ⟨rfl,rfl,rfl,Ae,fun k hk=>setRow_other _ _ _ _ Ab⟩
def Ig(c:UInt8)(k:Nat):Option Lt:=(letters.drop k).find? fun l=>l.sign == c
def Oa(c:UInt8)(e:Ending):Prop:=
 match find c with
 | none=>e=pd (fh #[YI 0 0 0 0 0 vp 0,gf vp])
 | some l=>e=pd (fh #[CY l,gf s7])
theorem J7(w:qq)(hT:Table w)(c:UInt8) :
  xi prog 189 #[rl dc c.toNat] w fun e w'=>Oa c e/\Below w.heap.size w w':=by
 obtain⟨tt,fr,h0⟩:=hT
 have H9:=ltOf h0
 have h0':(w.alloc (ye #[rl dc 0,rl tz 0,rl tz 0,rl tz 0,rl tz 0,gf vp,rl dc 0] 193)).heap[5]? = lp (ye Ii tt fr):=by
  rw [Below.heap_alloc _ _ _ H9];exact h0
 obtain⟨F,hF⟩:∃F,Ig c 0=F:=⟨_,rfl⟩
 have HF:Hid (Ig c 0=F):=hF
 clear hF
 have hc:c.toNat<256:=c.toNat_lt
 go_enter func189,ntmps189
 go_wp2_with (refine wpList_load_row rfl 289 _ rfl 5 rfl tt _ fr _ h0' Tryz.underlying289 rfl Aa ?_)
 clear h0' h0
 go_loopw [7] (fun i wr=>∃k:Nat,k<=7/\i=rl tz k/\Hid (Ig c k=F)/\Hid (Below w.heap.size w wr)/\Hid (wr.heap[w.heap.size]? = lp (ye #[rl dc 0,rl tz 0,rl tz 0,rl tz 0,rl tz 0,gf vp,rl dc 0] 193)))
  (fun i _=>7 - (intOf i).toNat)
 case atStart=>exact⟨0,Ab,rfl,HF,Bh _ _,tw _ _⟩
 case round=>
  obtain⟨k,hk,rfl,HK,HB,HH⟩:=hrel
  have hwlt:=ltOf HH.out
  by_cases Cg:k<7
  ·obtain⟨l,hl⟩:∃l,letters[k]? = lp l:=⟨letters[k]'Cg,aR Cg⟩
   have hix:=ix k l hl
   have HN:Hid (Ig c k=if l.sign == c then lp l else Ig c (k+1)):=by
    show _=_
    unfold Ig
    have:letters.drop k=l :: letters.drop (k+1):=by
     obtain⟨h1,h2⟩:=aW.1 hl
     rw [eG h1,h2]
    rw [this,List.find?_cons]
    cases l.sign == c <;> rfl
   clear hl
   by_cases hs:l.sign=c
   ·have ht:((l.sign.toNat:Int) == (c.toNat:Int))=s7:=by rw [hs];simp
    have HR:Hid (F=lp l):=by
     show _=_
     rw [←HK.out,HN.out,hs];simp
    clear hs HN HK
    have hrow:(wr.alloc (ye #[rl dc l.sign.toNat,rl tz l.shape,rl tz l.size,rl tz l.least,rl tz l.most,gf l.text,rl dc l.fin.toNat] 193)).heap[w.heap.size]? = _:=(Below.heap_alloc _ _ _ hwlt).trans HH.out
    have HQ:=fg _ _ _ #[rl dc l.sign.toNat,rl tz l.shape,rl tz l.size,rl tz l.least,rl tz l.most,gf l.text,rl dc l.fin.toNat] _ _ hrow
    have HR2:Hid (_=_):=hrow
    obtain⟨c0,c1,c2,c3,c4,c5,c6⟩:=LD 0 1 2 3 4 5 6 HQ
    clear HQ hrow
    generalize Ii=LC at *
    go_wp2_with (refine wpList_store_row rfl 193 _ _ rfl w.heap.size #[rl dc l.sign.toNat,rl tz l.shape,rl tz l.size,rl tz l.least,rl tz l.most,gf l.text,rl dc l.fin.toNat] rfl rfl 193 _ HR2.out Tryz.size193 rfl (OQ _ _ _ _ _ _ _) ?_)
    refine zg (v:=fh #[CY l,gf s7]) (by simp [results,results189,go_sem,c0,c1,c2,c3,c4,c5,c6]) rfl ⟨?_,?_⟩
    ·unfold Oa
     have e:find c=lp l:=(show Ig c 0=lp l from HF.out.trans HR.out)
     rw [e]
    ·exact Ci (HB.out.alloc HB.out.size _) (aA _) _
   ·have ht:((l.sign.toNat:Int) == (c.toNat:Int))=vp:=by
     rw [beq_eq_false_iff_ne]
     intro h
     exact hs (eV.1 Ab)
    have HR:Hid (Ig c (k+1)=F):=by
     show _=_
     rw [←HK.out,HN.out]
     simp [hs]
    clear hs HN HK
    generalize Ii=LC at *
    go_wp2
    go_roundw
    case rel=>exact⟨k+1,Ab,by go_num,HR,HB.out.alloc HB.out.size _,(Below.heap_alloc _ _ _ hwlt).trans HH.out⟩
    case measure=>simp [intOf];omega
  ·have hk7:k=7:=Ab
   subst hk7
   have HQ:=fg _ _ _ #[rl dc 0,rl tz 0,rl tz 0,rl tz 0,rl tz 0,gf vp,rl dc 0] _ _ HH.out
   obtain⟨c0,c1,c2,c3,c4,c5,c6⟩:=LD 0 1 2 3 4 5 6 HQ
   clear HQ
   generalize Ii=LC at *
   go_wp2_with (refine wpList_store_row rfl 193 _ _ rfl w.heap.size #[rl dc 0,rl tz 0,rl tz 0,rl tz 0,rl tz 0,gf vp,rl dc 0] rfl rfl 193 _ HH.out Tryz.size193 rfl (OQ _ _ _ _ _ _ _) ?_)
   refine zg (v:=fh #[YI 0 0 0 0 0 vp 0,gf vp]) (by simp [results,results189,go_sem,c0,c1,c2,c3,c4,c5,c6]) rfl ⟨?_,?_⟩
   ·unfold Oa
    have e:find c=od:=(show Ig c 0=od from HF.out.trans (HK.out.symm.trans rfl))
    rw [e]
   ·exact Ci HB.out (aA _) _
def Beside(base:Nat)(v:tj)(w:qq)(b:Nat):Prop:=base<=b/\b<w.heap.size/\v.ownBlock≠lp b
theorem Ec{w w1:qq}{base:Nat}{e:TypeId}{size:Nat}{v:tj}{n:Nat}{xs:List tj}(h:w.ownsRow base e size v n xs)(hb:Below w.heap.size w w1):w1.ownsRow base e size v n xs:=
 h.kept (row:=od) ⟨hb.os,hb.tape,hb.output,hb.size,fun k hk _=>hb.block k hk⟩ (by cases hv:v.ownBlock <;> simp)
theorem Dy{w:qq}{base:Nat}{e:TypeId}{size:Nat}{v:tj}{n:Nat}{xs:List tj}(h:w.ownsRow base e size v n xs){g:Nat}(hg:v.ownBlock=lp g):base<=g/\g<w.heap.size:=h.lt g hg
theorem XY{wr w1 w2 w3:qq}{base:Nat}{v:tj}{ps:List (Ty×tj)}{t:Ty}{x:tj}{g cap:Nat}(Dx:base<=wr.heap.size)(Db:wr.ownsRow base 196 8 v ps.length (ps.flatMap Mc))(hps:∀p,p∈ps->El wr (Beside base v wr) p.1.ps p.2)(B9:Below wr.heap.size wr w1)(hx:El w1 (fun b=>wr.heap.size<=b/\b<w1.heap.size) t.ps x)(Fs:Below w1.heap.size w1 w2)(hown3:w3.ownsRow base 196 8 (cf (lp ⟨g,0,od⟩) (ps.length+1) cap) (ps.length+1) (ps.flatMap Mc++Mc (t,x)))(hgr:w2.grownBy w3 v.ownBlock)(hat:v.ownBlock=lp g∨g=w2.heap.size) :
  w3.ownsRow base 196 8 (cf (lp ⟨g,0,od⟩) (ps.length+1) cap) (ps ++ [(t,x)]).length ((ps ++ [(t,x)]).flatMap Mc) /\
  (∀p,p∈ps ++ [(t,x)]->El w3 (Beside base (cf (lp ⟨g,0,od⟩) (ps.length+1) cap) w3) p.1.ps p.2)/\Below base wr w3:=by
 exact V26
theorem XZ{wr w1 w2 w3:qq}{base:Nat}{v:tj}{ps:List (V×tj)}{t:V}{x:tj}{g cap:Nat}(Dx:base<=wr.heap.size)(Db:wr.ownsRow base 164 3 v ps.length (ps.flatMap Fe))(hps:∀p,p∈ps->Er wr (Beside base v wr) p.1.l p.2)(B9:Below wr.heap.size wr w1)(hx:Er w1 (fun b=>wr.heap.size<=b/\b<w1.heap.size) t.l x)(Fs:Below w1.heap.size w1 w2)(hown3:w3.ownsRow base 164 3 (cf (lp ⟨g,0,od⟩) (ps.length+1) cap) (ps.length+1) (ps.flatMap Fe++Fe (t,x)))(hgr:w2.grownBy w3 v.ownBlock)(hat:v.ownBlock=lp g∨g=w2.heap.size) :
  w3.ownsRow base 164 3 (cf (lp ⟨g,0,od⟩) (ps.length+1) cap) (ps ++ [(t,x)]).length ((ps ++ [(t,x)]).flatMap Fe) /\
  (∀p,p∈ps ++ [(t,x)]->Er w3 (Beside base (cf (lp ⟨g,0,od⟩) (ps.length+1) cap) w3) p.1.l p.2)/\Below base wr w3:=by
 exact V26
theorem XM{w:qq}{base B:Nat}{v:tj}{ps:List (Ty×tj)}(Db:w.ownsRow base 196 8 v ps.length (ps.flatMap Mc))(hps:∀p,p∈ps->El w (Beside base v w) p.1.ps p.2)(hB:B<=base) :
  El w (fun b=>B<=b/\b<w.heap.size) (ps.map xo) v:=
 El.of_own Db (fun p hp=>(hps p hp).congr (fun b ⟨h1,h2,_⟩=>⟨Ab,h2⟩) (fun _ _=>rfl)) (fun g hg=>by have:=Dy Db hg;exact⟨Ab,this.2⟩)
theorem XN{w:qq}{base B:Nat}{v:tj}{ps:List (V×tj)}(Db:w.ownsRow base 164 3 v ps.length (ps.flatMap Fe))(hps:∀p,p∈ps->Er w (Beside base v w) p.1.l p.2)(hB:B<=base) :
  Er w (fun b=>B<=b/\b<w.heap.size) (ps.map xo) v:=
 Er.of_own Db (fun p hp=>(hps p hp).congr (fun b ⟨h1,h2,_⟩=>⟨Ab,h2⟩) (fun _ _=>rfl)) (fun g hg=>by have:=Dy Db hg;exact⟨Ab,this.2⟩)
structure Oe where
 v:V
 x:tj
 lo:Nat
 hi:Nat
def Oe.pr(q:Oe):V×tj:=(q.v,q.x)
inductive Tb(w:qq):Nat->Nat->List V->tj->Prop
 | nil (lo hi:Nat):Tb w lo hi [] (cf od 0 0)
 | row (lo hi:Nat) (qs:List Oe) (g cap:Nat) (hhi:g<hi)
   (Db:w.ownsRow lo 164 3 (cf (lp ⟨g,0,od⟩) qs.length cap) qs.length ((qs.map Oe.pr).flatMap Fe))
   (hin:∀q,q∈qs->lo<=q.lo/\q.lo<=q.hi/\q.hi<=hi/\¬(q.lo<=g/\g<q.hi)) (hdis:qs.Pairwise (fun a b=>a.hi<=b.lo))
   (hr:∀q,q∈qs->Tb w q.lo q.hi q.v.l q.x):Tb w lo hi (qs.map Oe.v) (cf (lp ⟨g,0,od⟩) qs.length cap)
theorem Tb.congr{w w':qq}{lo hi:Nat}{vs:List V}{v:tj}(h:Tb w lo hi vs v):(∀b,lo<=b->b<hi->w'.heap[b]? = w.heap[b]?)->Tb w' lo hi vs v:=by
 induction h with
 | nil lo hi=>intro _;exact .nil lo hi
 | row lo hi qs g cap hhi Db hin hdis hr ih=>
  intro hk
  refine .row lo hi qs g cap hhi ⟨Db.1,?_⟩ hin hdis (fun q hq=>ih q hq (fun b h1 h2=>?_))
  ·have hlo:=(Db.lt g rfl).1
   rcases Db.2 with h|⟨g',cap',cur,e,k1,k2,k3⟩
   ·exact .inl h
   ·cases e
    exact .inr ⟨g,cap,cur,rfl,k1,(hk g hlo hhi).trans k2,k3⟩
  ·have:=hin q hq
   exact hk b Ab Ab
theorem Tb.mono{w:qq}{lo hi lo' hi':Nat}{vs:List V}{v:tj}(h:Tb w lo hi vs v)(h1:lo'<=lo)(h2:hi<=hi'):Tb w lo' hi' vs v:=by
 cases h with
 | nil=>exact .nil _ _
 | row _ _ qs g cap hhi Db hin hdis hr=>
  refine .row lo' hi' qs g cap Ab ⟨Db.1,Db.2.imp id fun⟨g,cap,cur,e,k1,k2⟩=>⟨g,cap,cur,e,aE h1 k1,k2⟩⟩ (fun q hq=>?_) hdis hr
  have:=hin q hq
  omega
theorem PH(qs:List Oe):(qs.map Oe.pr).map xo=qs.map Oe.v:=by rw [List.map_map];rfl
theorem Tb.vs{w:qq}{lo hi:Nat}{vs:List V}{v:tj}(h:Tb w lo hi vs v):Er w (fun b=>lo<=b/\b<hi) vs v:=by
 induction h with
 | nil lo hi=>exact .nil _ _
 | row lo hi qs g cap hhi Db hin hdis hr ih=>
  have hl:(qs.map Oe.pr).length=qs.length:=bN _
  rw [←PH]
  rw [←hl] at Db ⊢
  refine Er.of_own Db (fun p hp=>?_) (fun g' hg'=>?_)
  ·obtain⟨q,hq,rfl⟩:=bE.1 hp
   have:=hin q hq
   exact(ih q hq).congr (fun b hb=>⟨Ab,Ab⟩) (fun _ _=>rfl)
  ·have h1:=Db.lt g' hg'
   have:g'=g:=by simp [Value.ownBlock] at hg';exact hg'.symm
   exact⟨h1.1,Ab⟩
theorem Tb.shape{w:qq}{lo hi:Nat}{vs:List V}{v:tj}(h:Tb w lo hi vs v):∃a c,v=cf a vs.length c:=by
 cases h with
 | nil=>exact⟨_,_,rfl⟩
 | row _ _ qs g cap=>exact⟨_,_,by rw [bN]⟩
def BM(w:qq)(base:Nat)(v:tj)(ps:List (V×tj)):Prop:=
 ∃qs:List Oe,qs.map Oe.pr=ps/\(∀q,q∈qs->base<=q.lo/\q.lo<=q.hi/\q.hi<=w.heap.size/\∀g,v.ownBlock=lp g->¬(q.lo<=g/\g<q.hi))/\qs.Pairwise (fun a b=>a.hi<=b.lo)/\∀q,q∈qs->Tb w q.lo q.hi q.v.l q.x
theorem BM.nil(w:qq)(base:Nat)(v:tj):BM w base v []:=⟨[],rfl,(fun q hq=>by cases hq),List.Pairwise.nil,(fun q hq=>by cases hq)⟩
theorem BM.keep{w w':qq}{base:Nat}{v:tj}{ps:List (V×tj)}(h:BM w base v ps)(hs:w.heap.size<=w'.heap.size)(hk:∀b,base<=b->b<w.heap.size->v.ownBlock≠lp b->w'.heap[b]? = w.heap[b]?):BM w' base v ps:=by
 obtain⟨qs,h1,h2,h3,h4⟩:=h
 refine⟨qs,h1,fun q hq=>?_,h3,fun q hq=>(h4 q hq).congr (fun b k1 k2=>?_)⟩
 ·have:=h2 q hq
  exact⟨this.1,this.2.1,Ab,this.2.2.2⟩
 ·obtain⟨a1,a2,a3,a4⟩:=h2 q hq
  exact hk b Ab Ab (fun e=>a4 b e ⟨k1,k2⟩)
theorem BM.grow{wr w1 w2 w3:qq}{base:Nat}{v:tj}{ps:List (V×tj)}{t:V}{x:tj}{g cap n:Nat}(Dx:base<=wr.heap.size)(Cg:∀g,v.ownBlock=lp g->g<wr.heap.size)(hps:BM wr base v ps)(B9:Below wr.heap.size wr w1)(hx:Tb w1 wr.heap.size w1.heap.size t.l x)(Fs:Below w1.heap.size w1 w2)(hgr:w2.grownBy w3 v.ownBlock)(hat:v.ownBlock=lp g∨g=w2.heap.size):BM w3 base (cf (lp ⟨g,0,od⟩) n cap) (ps ++ [(t,x)]):=by
 have s1:=B9.size
 have s2:=Fs.size
 have s3:=hgr.size
 obtain⟨qs,rfl,h2,h3,h4⟩:=hps
 have hgk:∀g',(cf (lp ⟨g,0,od⟩) n cap).ownBlock=lp g'->v.ownBlock=lp g'∨g'=w2.heap.size:=by
  intro g' hg'
  have:g=g':=by simpa [Value.ownBlock] using hg'
  subst this
  exact hat
 refine⟨qs ++ [⟨t,x,wr.heap.size,w1.heap.size⟩],by rw [cI];rfl,fun q hq=>?_,?_,fun q hq=>?_⟩
 ·rw [cH] at hq
  rcases hq with hq|hq
  ·obtain⟨a1,a2,a3,a4⟩:=h2 q hq
   refine⟨a1,a2,Ab,fun g' hg'=>?_⟩
   rcases hgk g' hg' with h|h
   ·exact a4 g' h
   ·omega
  ·obtain rfl:q=⟨t,x,wr.heap.size,w1.heap.size⟩:=by simpa using hq
   refine⟨Dx,s1,by show w1.heap.size<=_;omega,fun g' hg'=>?_⟩
   show ¬(wr.heap.size<=g'/\g'<w1.heap.size)
   rcases hgk g' hg' with h|h
   ·have:=Cg g' h;omega
   ·omega
 ·rw [List.pairwise_append]
  refine⟨h3,List.pairwise_singleton _ _,fun a ha b hb=>?_⟩
  obtain rfl:b=⟨t,x,wr.heap.size,w1.heap.size⟩:=by simpa using hb
  exact(h2 a ha).2.2.1
 ·rw [cH] at hq
  rcases hq with hq|hq
  ·obtain⟨a1,a2,a3,a4⟩:=h2 q hq
   refine(h4 q hq).congr (fun b k1 k2=>?_)
   rw [hgr.block b Ab (fun e=>a4 b e.symm ⟨k1,k2⟩),Fs.block b Ab,B9.block b Ab]
  ·obtain rfl:q=⟨t,x,wr.heap.size,w1.heap.size⟩:=by simpa using hq
   refine hx.congr (fun b k1 k2=>?_)
   rw [hgr.block b Ab (fun e=>by have:=Cg b e.symm;omega),Fs.block b k2]
theorem BM.done{w:qq}{base:Nat}{v:tj}{ps:List (V×tj)}(Db:w.ownsRow base 164 3 v ps.length (ps.flatMap Fe))(h:BM w base v ps):Tb w base w.heap.size (ps.map xo) v:=by
 obtain⟨qs,rfl,h2,h3,h4⟩:=h
 rw [bN] at Db
 rw [PH]
 rcases Db.2 with⟨rfl,h0⟩|⟨g,cap,cur,rfl,_⟩
 ·have:qs = []:=bP.1 h0
  subst this
  exact .nil _ _
 ·exact .row _ _ qs g cap (Db.lt g rfl).2 Db (fun q hq=>by obtain⟨a1,a2,a3,a4⟩:=h2 q hq;exact⟨a1,a2,a3,a4 g rfl⟩) h3 h4
theorem NQ{c:UInt8}{l:Lt}(h:find c=lp l):l∈letters:=List.mem_of_find?_eq_some h
theorem Wf(f:List UInt8->Option (Ty×List UInt8))(hf:∀s t r,f s=lp (t,r)->r.length<s.length)(l:Lt) :
  ∀n s acc ps r,Orch.parts f l n s acc=lp (ps,r)->r.length<s.length/\ps.length+r.length<acc.length+s.length:=by
 intro n
 induction n with
 | zero=>intro s acc ps r h;simp [Orch.parts] at h
 | succ n ih=>
  intro s acc ps r h
  cases s with
  | nil=>simp [Orch.parts] at h
  | cons c q=>
   unfold Orch.parts at h
   split at h
   ·split at h
    ·cases h
    ·exact X6s
   ·split at h
    ·cases h
    ·rename_i t rest hft
     have h1:=hf _ _ _ hft
     have h2:=ih _ _ _ _ h
     rw [aH] at h2
     simp only [aK,aI] at h1 h2 ⊢
     omega
theorem Ra:∀k s t r,Orch.ptype k s=lp (t,r)->r.length<s.length:=by
 intro k
 induction k with
 | zero=>intro s t r h;simp [Orch.ptype] at h
 | succ k ih=>
  intro s t r h
  cases s with
  | nil=>simp [Orch.ptype] at h
  | cons c q=>
   unfold Orch.ptype at h
   split at h
   ·cases h
   ·split at h
    ·exact X6s
    ·split at h
     ·cases h
     ·rename_i ps rest hp
      simp only [aL,bH] at h
      obtain⟨rfl,rfl⟩:=h
      have:=(Wf _ ih _ _ _ _ _ _ hp).1
      simp only [aK]
      omega
theorem OZ(f:List UInt8->Option (Ty×List UInt8))(k:Nat)(hf:∀s t r,f s=lp (t,r)->s.length<=64->Vp k t/\r.length<s.length)(l:Lt) :
  ∀n s acc ps r,Orch.parts f l n s acc=lp (ps,r)->s.length<=64->(∀p,p∈acc->Vp k p)->(∀p,p∈ps->Vp k p)/\(l.shape=2->ps.length=1):=by
 intro n
 induction n with
 | zero=>intro s acc ps r h;simp [Orch.parts] at h
 | succ n ih=>
  intro s acc ps r h hs ha
  cases s with
  | nil=>simp [Orch.parts] at h
  | cons c q=>
   unfold Orch.parts at h
   split at h
   ·split at h
    ·cases h
    ·rename_i hn
     simp only [aL,bH] at h
     obtain⟨rfl,rfl⟩:=h
     exact⟨ha,fun h2=>by
      have h3:¬(acc.length=0∨l.shape=2/\1<acc.length):=hn
      omega⟩
   ·split at h
    ·cases h
    ·rename_i t rest hft
     have h1:=hf _ _ _ hft hs
     refine ih _ _ _ _ h Ab (fun p hp=>?_)
     rw [cH] at hp
     rcases hp with hp|hp
     ·exact ha p hp
     ·obtain rfl:p=t:=by simpa using hp
      exact h1.1
theorem PI:∀k s t r,Orch.ptype k s=lp (t,r)->s.length<=64->Vp k t/\r.length<s.length:=by
 intro k
 induction k with
 | zero=>intro s t r h;simp [Orch.ptype] at h
 | succ k ih=>
  intro s t r h hs
  refine⟨?_,Ra _ _ _ _ h⟩
  cases s with
  | nil=>simp [Orch.ptype] at h
  | cons c q=>
   unfold Orch.ptype at h
   split at h
   ·cases h
   ·rename_i l hl
    have hm:=NQ hl
    split at h
    ·rename_i h0
     simp only [aL,bH] at h
     obtain⟨rfl,rfl⟩:=h
     refine⟨hm,fun h2=>?_,by simp [Ty.ps],fun p hp=>by simp [Ty.ps] at hp⟩
     simp only [Ty.l] at h2
     simp only [letters,bI,cF,or_false] at hm
     rcases hm with rfl|rfl|rfl|rfl|rfl|rfl|rfl <;> simp at h2 h0
    ·split at h
     ·cases h
     ·rename_i ps rest hp
      simp only [aL,bH] at h
      obtain⟨rfl,rfl⟩:=h
      simp only [aK] at hs
      have h1:=OZ _ k ih _ _ _ _ _ _ hp Ab (fun p hp=>by simp at hp)
      have h2:=(Wf _ (Ra k) _ _ _ _ _ _ hp).2
      simp only [aI] at h2
      exact⟨hm,h1.2,by simp only [Ty.ps];omega,h1.1⟩
theorem Ut{s:List UInt8}{t:Ty}(h:parse s=lp t):Vp 9 t:=by
 unfold parse at h
 split at h
 ·cases h
 ·split at h
  ·rename_i t' hp
   cases h
   exact(PI 9 s _ _ hp Ab).1
  ·cases h
def Un(e:Ending):Prop:=∃(a b c d f:Int) (x:Bool) (g:Int) (p:Option Addr) (m n:Nat) (r:ByteArray),e=pd (fh #[Gl a b c d f x g (cf p m n),pt r,gf vp])
def Abq(w w':qq)(e:Ending):Option (Ty×List UInt8)->Prop
 | none=>Un e
 | some (t,rest)=>∃psv r,e=pd (fh #[D7 t.l psv,pt r,gf s7])/\r.data.toList=rest/\El w' (fun b=>w.heap.size<=b/\b<w'.heap.size) t.ps psv
def VV(w w':qq)(e:Ending):Option (List Ty×List UInt8)->Prop
 | none=>e=pd (fh #[cf od 0 0,pt ⟨#[]⟩,gf vp])
 | some (ps,rest)=>∃v r,e=pd (fh #[v,pt r,gf s7])/\r.data.toList=rest/\El w' (fun b=>w.heap.size<=b/\b<w'.heap.size) ps v
def Td(k:Nat):Prop:=∀(w:qq) (s:ByteArray) (d:Int),Table w->s.size<=64->d+k=9->xi prog 168 #[pt s,rl tz d] w fun e w'=>Abq w w' e (Orch.ptype k s.data.toList)/\Below w.heap.size w w'
def LK(k:Nat):Prop:=∀(w:qq) (s:ByteArray) (l:Lt) (d:Int),Table w->s.size<=64->d+k=9->xi prog 190 #[pt s,CY l,rl tz d] w fun e w'=>VV w w' e (Orch.parts (Orch.ptype k) l (s.size+1) s.data.toList [])/\Below w.heap.size w w'
theorem Tryz.info196:(prog.info? 196).map (fun i=>(i.zero,i.size,i.bytes))=lp (lp (Gl 0 0 0 0 0 vp 0 (cf od 0 0)),8,72):=Aa
theorem Tryz.info164:(prog.info? 164).map (fun i=>(i.zero,i.size,i.bytes))=lp (lp (vv 0 ⟨#[]⟩ (cf od 0 0)),3,48):=Aa
theorem Yv{B:Nat}{w w1:qq}(h:Below B w w1)(g:Nat)(hg:B<=g)(x y z:tj):Below B w (((w1.setCell ⟨g,0,od⟩ x).setCell ⟨g,1,od⟩ y).setCell ⟨g,2,od⟩ z):=
 ((h.setCell (p:=⟨g,0,od⟩) hg x).setCell (p:=⟨g,1,od⟩) hg y).setCell (p:=⟨g,2,od⟩) hg z
section
variable {Tabs:qq->Prop}
theorem U4(w:qq)(sg sh sz lo hi:Int)(tx:Bool)(fn:Int)(pa:Option Addr)(pn pc:Nat)(bv:tj)(b off k n cap:Nat)(S:ByteArray)(FB:Bool)(hk:k<=1000)(Ea:k<=cap)(Cg:b<w.heap.size)(h4:n<=k)(HC:Hid (∀w',Below w.heap.size w w'->xi prog 204 #[bv,rl tz 200] w' fun e Hx=>e=pd (fh #[rl tz n,cf (lp ⟨b,off,od⟩) k cap,gf s7])/\Below w'.heap.size w' Hx))(HF:Hid (∀w',Tabs w'->xi prog 200 #[Gl sg sh sz lo hi tx fn (cf pa pn pc),vv 0 S (cf od 0 0)] w' fun e Hx=>e=pd (gf FB)/\Below w'.heap.size w' Hx))(HTb:Hid (∀w',Below w.heap.size w w'->Tabs w'))(HS':Hid (∀w',Below w.heap.size w w'->(convert 35 9 (cf (lp ⟨b,off,od⟩) n cap)).run prog w'=.ok (pt S) w')) :
  xi prog 203 #[Gl sg sh sz lo hi tx fn (cf pa pn pc),bv] w fun e w'=>
   ∃rv,e=pd (fh #[vv 0 S (cf od 0 0),rv,gf FB])/\(rv=if cap=n then cf (lp ⟨b,off,od⟩) (k - n) 0 else cf (lp ⟨b,off+n,od⟩) (k - n) (cap - n))/\Below w.heap.size w w':=by
 have h4z:¬(k:Int)<(n:Int):=Ab
 obtain⟨RV,hRV⟩:∃RV,RV=if cap=n then cf (lp ⟨b,off,od⟩) (k - n) 0 else cf (lp ⟨b,off+n,od⟩) (k - n) (cap - n):=⟨_,rfl⟩
 rw [←hRV]
 have HRV:Hid (RV=if cap=n then cf (lp ⟨b,off,od⟩) (k - n) 0 else cf (lp ⟨b,off+n,od⟩) (k - n) (cap - n)):=hRV
 clear hRV
 refine Crk ?_;intro n0 n1
 have N0:Hid (_=_):=n0
 have N1:Hid (_=_):=n1
 clear n0 n1
 go_enter func203,ntmps203
 go_wp2_with (go_at_call 204;refine(HC.out _ (Ck _ _ _)).mono ?_;rintro e wa ⟨rfl,hba⟩;have HBa:Hid (Below w.heap.size w wa):=(Ck _ _ _).trans (hba.mono Ag);have hconv:=HS'.out wa HBa.out;have HA0:Hid (wa.heap[w.heap.size]? = _):=(hba.block _ (ltOf N0.out)).trans N0.out;have HA1:Hid (wa.heap[w.heap.size+1]? = _):=(hba.block _ (ltOf N1.out)).trans N1.out;clear hba)
 have q0:(wa.alloc (ye #[rl tz 0,pt S,cf od 0 0] 164)).heap[w.heap.size]? = _:=(Below.heap_alloc _ _ _ (ltOf HA0.out)).trans HA0.out
 have q1:(wa.alloc (ye #[rl tz 0,pt S,cf od 0 0] 164)).heap[w.heap.size+1]? = _:=(Below.heap_alloc _ _ _ (ltOf HA1.out)).trans HA1.out
 have hwl:=ltOf HA1.out
 refine Ve (fun W=>Below w.heap.size w W/\W.heap[w.heap.size]? = lp (ye #[rl dc sg,rl tz sh,rl tz sz,rl tz lo,rl tz hi,gf tx,rl dc fn,cf pa pn pc] 196) /\
  W.heap[w.heap.size+1]? = lp (ye #[rl tz 0,pt ⟨#[]⟩,cf od 0 0] 164)/\W.heap[wa.heap.size]? = lp (ye #[rl tz 0,pt S,cf od 0 0] 164)) ⟨HBa.out.alloc Ab _,q0,q1,tw _ _⟩ ?_
 clear q0 q1 N0 N1 HS' HC hconv HA0 HA1 HBa
 generalize wa.heap.size=G at *
 rintro W ⟨hbW,m0,m1,m2⟩
 obtain⟨a0,a1,a2,a3,a4,a5,a6,a7⟩:=KO 0 1 2 3 4 5 6 7 m0
 obtain⟨b0,b1,b2⟩:=Ld 0 1 2 m2
 have HW:Hid (Below w.heap.size w W):=hbW
 have M1:Hid (W.heap[w.heap.size+1]? = lp (ye #[rl tz 0,pt ⟨#[]⟩,cf od 0 0] 164)):=m1
 have M2:Hid (W.heap[G]? = lp (ye #[rl tz 0,pt S,cf od 0 0] 164)):=m2
 clear hbW m0 m1 m2
 by_cases hcs:cap=n
 all_goals go_region_with (
  go_at_call 200
  refine(HF.out _ (HTb.out _ (by first|exact HW.out|exact HW.out.drew|exact HW.out.drew.drew))).mono ?_
  rintro e w1 ⟨rfl,B9⟩
  have k1:w1.heap[w.heap.size+1]? = lp (ye #[rl tz 0,pt ⟨#[]⟩,cf od 0 0] 164):=(B9.block _ (ltOf M1.out)).trans M1.out
  have k2:w1.heap[G]? = lp (ye #[rl tz 0,pt S,cf od 0 0] 164):=(B9.block _ (ltOf M2.out)).trans M2.out
  have Cs:Hid (Below w.heap.size w w1):=Below.trans (by first|exact HW.out|exact HW.out.drew|exact HW.out.drew.drew) (B9.mono (by first|exact HW.out.size))
  obtain⟨d0,d1,d2⟩:=Ld 0 1 2 k1
  have f0:=Ay (j:=0) k1
  have f1:=Ay (j:=1) k1
  have f2:=Ay (j:=2) k1
  obtain⟨g0,g1,g2⟩:=Ld 0 1 2 k2
  clear B9 k1 k2)
 all_goals go_wp2
 all_goals refine zg (v:=fh #[vv 0 S (cf od 0 0),RV,gf FB]) ?_ rfl ⟨RV,rfl,rfl,?_⟩
 all_goals try exact Yv (by first|exact Cs.out|exact Cs.out.drew) _ (dD _) _ _ _
 all_goals try(rw [HRV.out,aQ hcs];simp [results,results203,go_sem,d0,d1,d2];done)
 all_goals try(rw [HRV.out,aO hcs];simp [results,results203,go_sem,d0,d1,d2];done)
end
def QC:tj->Nat|pt s=>s.size|_=>0
theorem Bc{p:Prop}(h:p):Hid p:=h
theorem Table.pos{w:qq}(h:Table w):6<=w.heap.size:=by obtain⟨t,fr,h⟩:=h;exact ltOf h
theorem AM(s:ByteArray)(h:0<s.size):s.data.toList=s[0] :: (s.extract 1 s.size).data.toList:=by
 rw [Lib.extract_data]
 have h':0<s.data.toList.length:=by rw [←qy];exact h
 have e:=eG h'
 rw [List.drop_zero] at e
 rw [bO (by rw [cT,qy];exact aA _)]
 exact e
theorem PG(k:Nat)(hk9:k<=9)(ih:Td k):LK k:=by
 intro w s l d hT hs hd
 have HIH:Hid (Td k):=ih
 obtain⟨TOT,hTOT⟩:∃TOT,Orch.parts (Orch.ptype k) l (s.size+1) s.data.toList []=TOT:=⟨_,rfl⟩
 rw [hTOT]
 have HTOT:Hid (Orch.parts (Orch.ptype k) l (s.size+1) s.data.toList []=TOT):=hTOT
 have HT:Hid (Table w):=hT
 have H9:=hT.pos
 clear hTOT ih hT
 go_enter func190,ntmps190
 go_wp2
 go_loopw [0,9] (fun s0 u wr=>∃(sr:ByteArray) (ps:List (Ty×tj)) (m:Nat),s0=pt sr/\Hid (Orch.parts (Orch.ptype k) l m sr.data.toList (ps.map xo)=TOT)/\sr.size<m/\ps.length+sr.size<=64 /\
   Hid (wr.ownsRow (w.heap.size+1) 196 8 u ps.length (ps.flatMap Mc))/\Hid (∀p,p∈ps->El wr (Beside (w.heap.size+1) u wr) p.1.ps p.2)/\Hid (Below w.heap.size w wr) /\
   Hid (wr.heap[w.heap.size]? = lp (ye #[rl dc l.sign.toNat,rl tz l.shape,rl tz l.size,rl tz l.least,rl tz l.most,gf l.text,rl dc l.fin.toNat] 193)))
  (fun s0 _ _=>QC s0)
 case atStart=>exact⟨s,[],s.size+1,rfl,HTOT,Ab,by simpa using hs,World.ownsRow_nil _ _ _ _,(fun p hp=>by simp at hp),Bh _ _,tw _ _⟩
 case round=>
  obtain⟨sr,ps,m,rfl,HP,hm,hlen,HO,HPS,HB,HH⟩:=hrel
  obtain⟨c1,c6⟩:=BH 1 6 HH.out
  by_cases h0:sr.size=0
  ·have hnil:sr.toList = []:=(toList_nil sr).2 h0
   have HN:Hid (TOT=od):=by
    show _=_
    rw [←HP.out]
    cases m with
    | zero=>rfl
    | succ m=>rw [←Lib.toList_data,hnil];rfl
   clear HP
   go_wp2
   go_region
   all_goals go_wp2
   all_goals go_ret3
   all_goals exact⟨by rw [HN.out];rfl,by first|exact HB.out|exact HB.out.drew⟩
  ·have Cu:¬sr.toList = []:=fun h=>h0 ((toList_nil sr).1 h)
   have hnE:sr.toList.isEmpty=vp:=by
    cases h:sr.toList with
    | nil=>exact absurd h Cu
    | cons _ _=>rfl
   have hnB:(sr.toList == [])=vp:=by simpa using Cu
   have hpz:(0:Int)<(sr.size:Int):=Ab
   have hpn:0<sr.size:=Ab
   obtain⟨x0,hx0⟩:∃x0,sr[0]=x0:=⟨_,rfl⟩
   have HC:Hid (sr.data.toList=x0 :: (sr.extract 1 sr.size).data.toList):=by
    show _=_
    rw [AM sr hpn,hx0]
   obtain⟨m',rfl⟩:∃m',m=m'+1:=⟨m - 1,Ab⟩
   by_cases hf:x0=l.fin
   ·have hft:((x0.toNat:Int) == (l.fin.toNat:Int))=s7:=by rw [hf];simp
    have HN:Hid (TOT=if ps.length=0∨l.shape=2/\1<ps.length then od else lp (ps.map xo,(sr.extract 1 sr.size).data.toList)):=by
     show _=_
     rw [←HP.out,HC.out,Orch.parts,aQ hf,bN]
    clear HP HC hf
    obtain⟨ua,uc,hu9⟩:∃a c,u9=cf a ps.length c:=by
     exact V4q
    have HU:Hid (u9=cf ua ps.length uc):=hu9
    rw [hu9] at HO HPS ⊢
    clear hu9 HU
    have HD:Hid (∀W:qq,W.heap=wr.heap->El W (fun b=>w.heap.size<=b/\b<W.heap.size) (ps.map xo) (cf ua ps.length uc)):=fun W hW=>(XM HO.out HPS.out (dD _)).congr (fun b h=>by rw [hW];exact h) (fun b _=>by rw [hW])
    by_cases hz:ps.length=0
    ·have hzb:((ps.length:Int) == 0)=s7:=by simpa using hz
     have HR:Hid (TOT=od):=by
      show _=_
      rw [HN.out,aQ (Or.inl hz)]
     clear HN
     exact Owq
    ·have hzb:((ps.length:Int) == 0)=vp:=by
      rw [beq_eq_false_iff_ne];omega
     by_cases h2:l.shape=2
     ·have h2b:((l.shape:Int) == 2)=s7:=by rw [h2];rfl
      by_cases h1:1<ps.length
      ·have h1z:(1:Int)<(ps.length:Int):=Ab
       have HR:Hid (TOT=od):=by
        show _=_
        rw [HN.out,aQ (Or.inr ⟨h2,h1⟩)]
       clear HN hz h2
       exact Owq
      ·have h1z:¬(1:Int)<(ps.length:Int):=Ab
       exact Ha3
     ·have h2b:((l.shape:Int) == 2)=vp:=by
       rw [beq_eq_false_iff_ne];omega
      exact Ha3
   ·have hft:((x0.toNat:Int) == (l.fin.toNat:Int))=vp:=by
     rw [beq_eq_false_iff_ne]
     intro h
     exact hf (eV.1 Ab)
    have HN:Hid (TOT=match Orch.ptype k sr.data.toList with
      | none=>od
      | some (t,rest)=>Orch.parts (Orch.ptype k) l m' rest (ps.map xo ++ [t])):=by
     show _=_
     rw [←HP.out,HC.out,Orch.parts,aO hf]
     rfl
    have hszr:sr.size<=64:=Ab
    have HTr:Hid (Table wr):=HT.out.below HB.out H9
    have HL:Hid (∀t r,Orch.ptype k sr.data.toList=lp (t,r)->r.length<sr.size):=fun t r h=>by
     rw [qy];exact Ra _ _ _ _ h
    clear HP HC hf
    cases hpt:Orch.ptype k sr.data.toList with
    | none=>
     have HR:Hid (TOT=od):=by
      show _=_
      rw [HN.out,hpt]
     have HCALL:Hid (∀w',Table w'->xi prog 168 #[pt sr,rl tz d] w' fun e Hx=>Un e/\Below w'.heap.size w' Hx):=fun w' ht=>by
      have:=HIH.out w' sr d ht hszr hd
      rw [hpt] at this
      exact this
     clear HN hpt HL
     go_wp2
     go_region
     all_goals go_wp2_with (go_at_call 168;refine(HCALL.out _ (by first|exact HTr.out|exact HTr.out.below (Below.refl _ _).drew HTr.out.pos)).mono ?_;rintro e w1 ⟨⟨ta,tb,tc,td,tf,tx,tg,tp,tm,tn,tr,rfl⟩,B9⟩;have Cs:Hid (Below wr.heap.size wr w1):=Below.trans (Du _) B9;clear B9)
     all_goals go_ret3
     all_goals exact⟨by rw [HR.out];rfl,(HB.out.trans (Cs.out.mono HB.out.size)).alloc (by have:=HB.out.size;have:=Cs.out.size;omega) _⟩
    | some tr=>
     obtain⟨t,rest⟩:=tr
     have hrl:=HL.out t rest hpt
     have HR:Hid (Orch.parts (Orch.ptype k) l m' rest (ps.map xo ++ [t])=TOT):=by
      show _=_
      rw [HN.out,hpt]
     have HCALL:Hid (∀w',Table w'->xi prog 168 #[pt sr,rl tz d] w' fun e Hx=>(∃psv r,e=pd (fh #[D7 t.l psv,pt r,gf s7])/\r.data.toList=rest/\El Hx (fun b=>w'.heap.size<=b/\b<Hx.heap.size) t.ps psv)/\Below w'.heap.size w' Hx):=fun w' ht=>by
      have:=HIH.out w' sr d ht hszr hd
      rw [hpt] at this
      exact this
     clear HN hpt HL HIH HT HTOT
     obtain⟨i0,hi,hz0,hz1,hz2⟩:=info_parts Tryz.info196
     go_wp2
     go_region
     all_goals go_wp2_with (first|(at_builtin;refine wpList_append_lies _ rfl _ _ 194 rfl (w.heap.size+1) 196 i0 (Gl 0 0 0 0 0 vp 0 (cf od 0 0)) 8 72 underlying194 hi hz0 hz1 hz2 rfl Ad _ _ _ rfl (((Ec HO.out Cs.out).alloc _).alloc _) ⟨w1.heap.size+1,0,od⟩ 1 1 (Mc (t,cf pa t.ps.length pc)) rfl rfl ?hn ?h1 Ad ?c3 ?c4 ?c5 (w1.heap.size+1+1) ?hH ?_)|(go_at_call 168;refine(HCALL.out _ (by first|exact HTr.out|exact HTr.out.below (Below.refl _ _).drew HTr.out.pos)).mono ?_;rintro e w1 ⟨⟨psv,r,rfl,hr,hts⟩,B9⟩;have Cs:Hid (Below wr.heap.size wr w1):=Below.trans (Du _) B9;have HRR:Hid (r.data.toList=rest):=hr;obtain⟨pa,pc,rfl⟩:=hts.shape;have HTS:Hid (El w1 (fun b=>wr.heap.size<=b/\b<w1.heap.size) t.ps (cf pa t.ps.length pc)):=hts;clear B9 hr hts))
     case hn=>exact World.news_of_block (Mo w1 _ _).2
     case h1=>intro u hu;simp only [Mc,bI,cF,or_false] at hu;rcases hu with rfl|rfl|rfl|rfl|rfl|rfl|rfl|rfl <;> rfl
     case c3=>unfold maxLen;omega
     case c4=>omega
     case c5=>have:=HB.out.size;have:=Cs.out.size;simp;omega
     case hH=>simp
     intro g cap w3 hown3 hgr hat _
     obtain⟨r1,r2,r3⟩:=XY (t:=t) (x:=cf pa t.ps.length pc) (by have:=ltOf HH.out;omega) HO.out HPS.out Cs.out HTS.out (Ck w1 _ _) hown3 hgr (by simpa using hat)
     have hsr:r.size<sr.size:=by rw [qy r,HRR.out];exact hrl
     have HR2:Hid (Orch.parts (Orch.ptype k) l m' r.data.toList ((ps ++ [(t,cf pa t.ps.length pc)]).map xo)=TOT):=by
      show _=_
      rw [HRR.out,cI]
      exact HR.out
     have R1:=Bc r1
     have R2:=Bc r2
     have R3:Hid (Below w.heap.size w w3):=HB.out.trans (r3.mono (dD _))
     have R4:Hid (w3.heap[w.heap.size]? = _):=(r3.block _ (Nat.lt_succ_self _)).trans HH.out
     clear r1 r2 r3 hown3 hgr hat
     go_wp2
     go_roundw
     case rel=>exact⟨r,ps ++ [(t,cf pa t.ps.length pc)],m',rfl,HR2,Ab,by rw [aH,eO];omega,R1,R2,R3,R4⟩
     case measure=>simp [QC];omega
theorem FW(w:qq)(s:ByteArray)(d:Int)(h:s.size=0∨8<d) :
  xi prog 168 #[pt s,rl tz d] w fun e w'=>Un e/\Below w.heap.size w w':=by
 by_cases h0:s.size=0
 ·have hnil:s.toList = []:=(toList_nil s).2 h0
  exact Zdo
 ·have Cu:¬s.toList = []:=fun h=>h0 ((toList_nil s).1 h)
  have h8:8<d:=Ab
  have hnB:(s.toList == [])=vp:=by simpa using Cu
  exact Zdo
theorem UF:Td 0:=by
 intro w s d hT hs hd
 exact FW w s d (Or.inr Ab)
theorem JJ(w:qq)(s:ByteArray)(d:Int)(hT:Table w)(hpn:0<s.size)(hd:d<=8)(h:find s[0]=od) :
  xi prog 168 #[pt s,rl tz d] w fun e w'=>Un e/\Below w.heap.size w w':=by
 refine Yxi ?_;intro Cu hnB hpz HT1
 refine Ks3 ?_;intro HF
 unfold Oa at HF
 rw [h] at HF
 obtain⟨x0,hx0⟩:∃x0,s[0]=x0:=⟨_,rfl⟩
 rw [hx0] at HF
 have HFF:=Bc HF
 clear HF h hT
 refine Mh1 ?_;intro N0
 go_enter func168,ntmps168
 go_wp2_with (first
  | (refine wpList_store_row rfl 196 _ _ rfl w.heap.size #[rl dc 0,rl tz 0,rl tz 0,rl tz 0,rl tz 0,gf vp,rl dc 0,cf od 0 0] rfl rfl 196 _ HH2.out Tryz.size196 rfl (Up _ _ _ _ _ _ _ _ _ _) ?_)
  | (go_at_call 189;refine HFF.out.mono ?_;rintro e w1 ⟨rfl,B9⟩;have Cs:Hid (Below w.heap.size w w1):=(Bh _ _).trans (B9.mono Ae);have HH:Hid (w1.heap[w.heap.size]? = lp (ye #[rl dc 0,rl tz 0,rl tz 0,rl tz 0,rl tz 0,gf vp,rl dc 0,cf od 0 0] 196)):=(B9.block _ (ltOf N0.out)).trans N0.out;have HH2:Hid ((w1.alloc (ye #[rl dc 0,rl tz 0,rl tz 0,rl tz 0,rl tz 0,gf vp,rl dc 0] 193)).heap[w.heap.size]? = lp (ye #[rl dc 0,rl tz 0,rl tz 0,rl tz 0,rl tz 0,gf vp,rl dc 0,cf od 0 0] 196)):=(Below.heap_alloc _ _ _ (ltOf HH.out)).trans HH.out;clear B9))
 have HQ:=fg _ _ _ #[rl dc 0,rl tz 0,rl tz 0,rl tz 0,rl tz 0,gf vp,rl dc 0,cf od 0 0] _ _ HH2.out
 obtain⟨c0,c1,c2,c3,c4,c5,c6,c7⟩:=KO 0 1 2 3 4 5 6 7 HQ
 exact zg (v:=fh #[Gl 0 0 0 0 0 vp 0 (cf od 0 0),pt ⟨#[]⟩,gf vp]) (by simp [results,results168,go_sem,c0,c1,c2,c3,c4,c5,c6,c7]) rfl ⟨⟨_,_,_,_,_,_,_,_,_,_,_,rfl⟩,Ci (Cs.out.alloc Cs.out.size _) (aA _) _⟩
theorem Gt{P:Program}{fn:Func}{post:Ending->qq->Prop}{ex:Exit}{a:Act}{w:qq}(F:qq->Prop)(hF:F w)(h:∀W,F W->bodyPost P fn post ex a W):bodyPost P fn post ex a w:=h w hF
theorem PS(W:qq)(g:Nat)(t:TypeId)(z:Array tj)(hz:z.size=8)(hg:W.heap[g]? = lp (ye z t (0,0)))(u0 u1 u2 u3 u4 u5 u6 u7:tj) :
  ((((((((W.setCell ⟨g,0,od⟩ u0).setCell ⟨g,1,od⟩ u1).setCell ⟨g,2,od⟩ u2).setCell ⟨g,3,od⟩ u3).setCell ⟨g,4,od⟩ u4).setCell ⟨g,5,od⟩ u5).setCell ⟨g,6,od⟩ u6).setCell ⟨g,7,od⟩ u7).heap[g]? = lp (ye #[u0,u1,u2,u3,u4,u5,u6,u7] t (0,0)):=by
 have h0:=dq W g 0 _ t u0 hg
 have h1:=dq _ g 1 _ t u1 h0
 have h2:=dq _ g 2 _ t u2 h1
 have h3:=dq _ g 3 _ t u3 h2
 have h4:=dq _ g 4 _ t u4 h3
 have h5:=dq _ g 5 _ t u5 h4
 have h6:=dq _ g 6 _ t u6 h5
 have h7:=dq _ g 7 _ t u7 h6
 refine h7.trans ?_
 clear h7 h6 h5 h4 h3 h2 h1 h0 hg
 match z,hz with
 | ⟨[z0,z1,z2,z3,z4,z5,z6,z7]⟩,_=>simp
theorem PR{X w0:qq}{g B:Nat}{o:Obj}(h:X.heap[g]? = lp o/\Below B w0 X):X.drew.heap[g]? = lp o/\Below B w0 X.drew:=⟨h.1,h.2.drew⟩
theorem EE{B:Nat}{w0:qq}(W:qq)(g:Nat)(hg:B<=g)(h:Below B w0 W)(u0 u1 u2 u3 u4 u5 u6 u7:tj) :
  Below B w0 ((((((((W.setCell ⟨g,0,od⟩ u0).setCell ⟨g,1,od⟩ u1).setCell ⟨g,2,od⟩ u2).setCell ⟨g,3,od⟩ u3).setCell ⟨g,4,od⟩ u4).setCell ⟨g,5,od⟩ u5).setCell ⟨g,6,od⟩ u6).setCell ⟨g,7,od⟩ u7):=
 (((((((h.setCell (p:=⟨g,0,od⟩) hg u0).setCell (p:=⟨g,1,od⟩) hg u1).setCell (p:=⟨g,2,od⟩) hg u2).setCell (p:=⟨g,3,od⟩) hg u3).setCell (p:=⟨g,4,od⟩) hg u4).setCell (p:=⟨g,5,od⟩) hg u5).setCell (p:=⟨g,6,od⟩) hg u6).setCell (p:=⟨g,7,od⟩) hg u7
theorem UC(w:qq)(s:ByteArray)(d:Int)(hT:Table w)(hpn:0<s.size)(hd:d<=8)(l:Lt)(h:find s[0]=lp l)(hl:l.fin=0) :
  xi prog 168 #[pt s,rl tz d] w fun e w'=>e=pd (fh #[D7 l (cf od 0 0),pt (s.extract 1 s.size),gf s7])/\Below w.heap.size w w':=by
 refine Yxi ?_;intro Cu hnB hpz HT1
 refine Ks3 ?_;intro HF
 unfold Oa at HF
 rw [h] at HF
 obtain⟨x0,hx0⟩:∃x0,s[0]=x0:=⟨_,rfl⟩
 rw [hx0] at HF
 have hfn:(l.fin.toNat:Int)=0:=by rw [hl];rfl
 simp only [CY,YI,hfn] at HF
 simp only [D7,Gl,hfn]
 have HFF:=Bc HF
 clear HF h hT hl hfn
 generalize l.sign.toNat=sg at *
 generalize l.shape=sh at *
 generalize l.size=sz at *
 generalize l.least=lo at *
 generalize l.most=hi at *
 generalize l.text=tx at *
 refine Mh1 ?_;intro N0
 go_enter func168,ntmps168
 go_wp2_with (go_at_call 189;refine HFF.out.mono ?_;rintro e w1 ⟨rfl,B9⟩;have Cs:Hid (Below w.heap.size w w1):=(Bh _ _).trans (B9.mono Ae);have HH:Hid (w1.heap[w.heap.size]? = lp (ye #[rl dc 0,rl tz 0,rl tz 0,rl tz 0,rl tz 0,gf vp,rl dc 0,cf od 0 0] 196)):=(B9.block _ (ltOf N0.out)).trans N0.out;clear B9)
 have q0:(w1.alloc (ye #[rl dc sg,rl tz sh,rl tz sz,rl tz lo,rl tz hi,gf tx,rl dc 0] 193)).heap[w.heap.size]? = _:=(Below.heap_alloc _ _ _ (ltOf HH.out)).trans HH.out
 refine Ve (fun W=>Below w.heap.size w W/\W.heap[w.heap.size]? = lp (ye #[rl dc 0,rl tz 0,rl tz 0,rl tz 0,rl tz 0,gf vp,rl dc 0,cf od 0 0] 196)/\W.heap[w1.heap.size]? = lp (ye #[rl dc sg,rl tz sh,rl tz sz,rl tz lo,rl tz hi,gf tx,rl dc 0] 193))
  ⟨Cs.out.alloc Cs.out.size _,q0,tw _ _⟩ ?_
 have hGne:w.heap.size<w1.heap.size:=ltOf HH.out
 clear q0 N0 HFF Cs HH HT1
 generalize w1.heap.size=G at *
 rintro W ⟨hbW,m0,m1⟩
 obtain⟨a0,a1,a2,a3,a4,a5,a6,a7⟩:=KO 0 1 2 3 4 5 6 7 m0
 have f0:=Ay (j:=0) m0
 have f1:=Ay (j:=1) m0
 have f2:=Ay (j:=2) m0
 have f3:=Ay (j:=3) m0
 have f4:=Ay (j:=4) m0
 have f5:=Ay (j:=5) m0
 have f6:=Ay (j:=6) m0
 have f7:=Ay (j:=7) m0
 have M0:=Bc m0
 obtain⟨b0,b1,b2,b3,b4,b5,b6⟩:=LD 0 1 2 3 4 5 6 m1
 have HW:=Bc hbW
 clear hbW m0 m1
 go_region
 all_goals go_wp2
 all_goals refine Gt (fun X=>X.heap[w.heap.size]? = lp (ye #[rl dc sg,rl tz sh,rl tz sz,rl tz lo,rl tz hi,gf tx,rl dc 0,cf od 0 0] 196)/\Below w.heap.size w X) (PR ⟨PS W _ _ _ rfl M0.out _ _ _ _ _ _ _ _,EE W _ (aA _) HW.out _ _ _ _ _ _ _ _⟩) ?_
 all_goals rintro X ⟨HQ,hbX⟩
 all_goals have c0:=cellOf (j:=0) HQ rfl
 all_goals have c1:=cellOf (j:=1) HQ rfl
 all_goals have c2:=cellOf (j:=2) HQ rfl
 all_goals have c3:=cellOf (j:=3) HQ rfl
 all_goals have c4:=cellOf (j:=4) HQ rfl
 all_goals have c5:=cellOf (j:=5) HQ rfl
 all_goals have c6:=cellOf (j:=6) HQ rfl
 all_goals have c7:=cellOf (j:=7) HQ rfl
 all_goals exact zg (v:=fh #[Gl sg sh sz lo hi tx 0 (cf od 0 0),pt (s.extract 1 s.size),gf s7]) (by simp [results,results168,go_sem,c0,c1,c2,c3,c4,c5,c6,c7]) rfl ⟨rfl,hbX⟩
theorem UD(w:qq)(s:ByteArray)(d:Int)(hT:Table w)(hpn:0<s.size)(hd0:0<=d)(hd:d<=8)(l:Lt)(h:find s[0]=lp l)(hl:l.fin≠0)(pv:qq->Option Addr->Nat->Nat->ByteArray->Bool->qq->Prop)(HP:Hid (∀w',Table w'->xi prog 190 #[pt (s.extract 1 s.size),CY l,rl tz (d+1)] w' fun e Hx=>(∃a m c r ok,e=pd (fh #[cf a m c,pt r,gf ok])/\pv w' a m c r ok Hx)/\Below w'.heap.size w' Hx)) :
  xi prog 168 #[pt s,rl tz d] w fun e w'=>(∃wa wb a m c r ok,e=pd (fh #[D7 l (cf a m c),pt r,gf ok])/\pv wa a m c r ok wb/\w.heap.size<wa.heap.size/\w'.heap.size=wb.heap.size/\∀b,w.heap.size<b->w'.heap[b]? = wb.heap[b]?)/\Below w.heap.size w w':=by
 refine Yxi ?_;intro Cu hnB hpz HT1
 have HTT:Hid (∀w',Below w.heap.size w w'->Table w'):=fun w' hb=>hT.below hb hT.pos
 refine Ks3 ?_;intro HF
 unfold Oa at HF
 rw [h] at HF
 obtain⟨x0,hx0⟩:∃x0,s[0]=x0:=⟨_,rfl⟩
 rw [hx0] at HF
 have hfn:((l.fin.toNat:Int) == 0)=vp:=by
  rw [beq_eq_false_iff_ne]
  intro h
  exact hl (eV.1 Ag)
 have HFF:=Bc HF
 clear HF h hT hl
 simp only [CY,YI,D7,Gl] at HFF HP ⊢
 generalize l.sign.toNat=sg at *
 generalize l.shape=sh at *
 generalize l.size=sz at *
 generalize l.least=lo at *
 generalize l.most=hi at *
 generalize l.text=tx at *
 generalize l.fin.toNat=fn at *
 refine Mh1 ?_;intro N0
 go_enter func168,ntmps168
 go_wp2_with (go_at_call 189;refine HFF.out.mono ?_;rintro e w1 ⟨rfl,B9⟩;have Cs:Hid (Below w.heap.size w w1):=(Bh _ _).trans (B9.mono Ae);have HH:Hid (w1.heap[w.heap.size]? = lp (ye #[rl dc 0,rl tz 0,rl tz 0,rl tz 0,rl tz 0,gf vp,rl dc 0,cf od 0 0] 196)):=(B9.block _ (ltOf N0.out)).trans N0.out;clear B9)
 have q0:(w1.alloc (ye #[rl dc sg,rl tz sh,rl tz sz,rl tz lo,rl tz hi,gf tx,rl dc fn] 193)).heap[w.heap.size]? = _:=(Below.heap_alloc _ _ _ (ltOf HH.out)).trans HH.out
 refine Ve (fun W=>Below w.heap.size w W/\W.heap[w.heap.size]? = lp (ye #[rl dc 0,rl tz 0,rl tz 0,rl tz 0,rl tz 0,gf vp,rl dc 0,cf od 0 0] 196)/\W.heap[w1.heap.size]? = lp (ye #[rl dc sg,rl tz sh,rl tz sz,rl tz lo,rl tz hi,gf tx,rl dc fn] 193))
  ⟨Cs.out.alloc Cs.out.size _,q0,tw _ _⟩ ?_
 have hGne:w.heap.size<w1.heap.size:=ltOf HH.out
 clear q0 N0 HFF Cs HH HT1
 generalize w1.heap.size=G at *
 rintro W ⟨hbW,m0,m1⟩
 obtain⟨b0,b1,b2,b3,b4,b5,b6⟩:=LD 0 1 2 3 4 5 6 m1
 have HW:=Bc hbW
 have M0:=Bc m0
 have M1:=Bc m1
 clear hbW m0 m1
 go_region_with (
  go_at_call 190
  refine(HP.out _ (HTT.out _ (by first|exact HW.out|exact HW.out.drew|exact HW.out.drew.drew))).mono ?_
  rintro e w2 ⟨⟨ra,rm,rc,rr,ok,rfl,hpv⟩,Fs⟩
  have HPV:=Bc hpv
  have Fh:Hid (Below w.heap.size w w2):=Below.trans (by first|exact HW.out|exact HW.out.drew|exact HW.out.drew.drew) (Fs.mono (by first|exact HW.out.size))
  have K0:Hid (w2.heap[w.heap.size]? = lp (ye #[rl dc 0,rl tz 0,rl tz 0,rl tz 0,rl tz 0,gf vp,rl dc 0,cf od 0 0] 196)):=(Fs.block _ (ltOf M0.out)).trans M0.out
  have K1:Hid (w2.heap[G]? = lp (ye #[rl dc sg,rl tz sh,rl tz sz,rl tz lo,rl tz hi,gf tx,rl dc fn] 193)):=(Fs.block _ (ltOf M1.out)).trans M1.out
  clear Fs hpv)
 all_goals have e0:=cellOf (j:=0) K1.out rfl
 all_goals have e1:=cellOf (j:=1) K1.out rfl
 all_goals have e2:=cellOf (j:=2) K1.out rfl
 all_goals have e3:=cellOf (j:=3) K1.out rfl
 all_goals have e4:=cellOf (j:=4) K1.out rfl
 all_goals have e5:=cellOf (j:=5) K1.out rfl
 all_goals have e6:=cellOf (j:=6) K1.out rfl
 all_goals go_wp2_with (refine wpList_store_row rfl 196 _ _ rfl w.heap.size #[rl dc sg,rl tz sh,rl tz sz,rl tz lo,rl tz hi,gf tx,rl dc fn,cf ra rm rc] rfl rfl 196 _ K0.out Tryz.size196 rfl (Up _ _ _ _ _ _ _ _ _ _) ?_)
 all_goals have HQ:=fg _ _ _ #[rl dc sg,rl tz sh,rl tz sz,rl tz lo,rl tz hi,gf tx,rl dc fn,cf ra rm rc] _ _ K0.out
 all_goals have c0:=cellOf (j:=0) HQ rfl
 all_goals have c1:=cellOf (j:=1) HQ rfl
 all_goals have c2:=cellOf (j:=2) HQ rfl
 all_goals have c3:=cellOf (j:=3) HQ rfl
 all_goals have c4:=cellOf (j:=4) HQ rfl
 all_goals have c5:=cellOf (j:=5) HQ rfl
 all_goals have c6:=cellOf (j:=6) HQ rfl
 all_goals have c7:=cellOf (j:=7) HQ rfl
 all_goals refine zg (v:=fh #[Gl sg sh sz lo hi tx fn (cf ra rm rc),pt rr,gf ok]) (by simp [results,results168,go_sem,c0,c1,c2,c3,c4,c5,c6,c7]) rfl ⟨⟨_,w2,ra,rm,rc,rr,ok,rfl,HPV.out,by show w.heap.size<W.heap.size;exact ltOf M0.out,Ae,fun b hb=>setRow_other _ _ _ _ Ab⟩,Ci Fh.out (aA _) _⟩
theorem UE(k:Nat)(hk:k+1<=9)(hp:LK k):Td (k+1):=by
 intro w s d hT hs hd
 by_cases h0:s.size=0
 ·have e:Orch.ptype (k+1) s.data.toList=od:=by
   rw [←Lib.toList_data,(toList_nil s).2 h0];rfl
  rw [e]
  exact FW w s d (Or.inl h0)
 ·have hpn:0<s.size:=Ab
  have hc:=AM s hpn
  have hxl:(s.extract 1 s.size).data.toList.length=(s.extract 1 s.size).size:=(qy _).symm
  have hxs:(s.extract 1 s.size).size<=64:=by
   rw [qy,Lib.extract_data,bL,cT];omega
  rw [hc,Orch.ptype]
  cases hf:find s[0] with
  | none=>exact JJ w s d hT hpn Ab hf
  | some l=>
   by_cases hl:l.fin=0
   ·simp only [aQ hl]
    refine(UC w s d hT hpn Ab l hf hl).mono ?_
    rintro e w' ⟨rfl,hb⟩
    exact⟨⟨_,_,rfl,rfl,.nil _ _⟩,hb⟩
   ·simp only [aO hl,hxl]
    obtain⟨TOT,hTOT⟩:∃TOT,Orch.parts (Orch.ptype k) l ((s.extract 1 s.size).size+1) (s.extract 1 s.size).data.toList []=TOT:=⟨_,rfl⟩
    rw [hTOT]
    by_cases hd0:0<=d
    ·refine(UD w s d hT hpn hd0 Ab l hf hl (fun w' a m c r ok Hx=>VV w' Hx (pd (fh #[cf a m c,pt r,gf ok])) TOT) (fun w' ht=>?_)).mono ?_
     ·refine(hp w' (s.extract 1 s.size) l (d+1) ht hxs Ab).mono ?_
      rintro e Hx ⟨Gr,hb⟩
      rw [hTOT] at Gr
      refine⟨?_,hb⟩
      cases TOT with
      | none=>
       have he:e=pd (fh #[cf od 0 0,pt ⟨#[]⟩,gf vp]):=Gr
       exact⟨od,0,0,⟨#[]⟩,vp,he,by rw [←he];exact Gr⟩
      | some pr=>
       obtain⟨ps,rest⟩:=pr
       obtain⟨v,r,he,hr,hts⟩:=Gr
       obtain⟨a,c,rfl⟩:=hts.shape
       exact⟨a,ps.length,c,r,s7,he,⟨_,r,rfl,hr,hts⟩⟩
     ·rintro e w' ⟨⟨wa,wb,a,m,c,r,ok,rfl,hpv,Cg,Di,hblk⟩,hb⟩
      refine⟨?_,hb⟩
      cases TOT with
      | none=>
       have he:Ending.returned (fh #[cf a m c,pt r,gf ok])=pd (fh #[cf od 0 0,pt ⟨#[]⟩,gf vp]):=hpv
       simp only [ax,jj,dL,bV,pz] at he
       obtain⟨_,_,rfl,_⟩:=he
       exact⟨_,_,_,_,_,_,_,_,_,_,_,rfl⟩
      | some pr=>
       obtain⟨ps,rest⟩:=pr
       obtain⟨v,r',he,hr,hts⟩:=hpv
       simp only [ax,jj,dL,bV,pz,Value.string.injEq] at he
       obtain⟨rfl,rfl,rfl,_⟩:=he
       refine⟨_,_,rfl,hr,hts.congr (fun b Es=>⟨Ab,by rw [Di];exact Es.2⟩) (fun b Es=>hblk b Ab)⟩
    ·omega
theorem YT:∀k,k<=9->Td k:=by
 intro k
 induction k with
 | zero=>intro _;exact UF
 | succ k ih=>intro h;exact UE k h (PG k Ab (ih Ab))
def parseRes(w w':qq)(e:Ending):Option Ty->Prop
 | none=>∃(a b c d f:Int) (x:Bool) (g:Int) (p:Option Addr) (m n:Nat),e=pd (fh #[Gl a b c d f x g (cf p m n),gf vp])
 | some t=>∃psv,e=pd (fh #[D7 t.l psv,gf s7])/\El w' (fun b=>w.heap.size<=b/\b<w'.heap.size) t.ps psv
theorem DJ(w:qq)(s:ByteArray)(h:64<s.size):xi prog 121 #[pt s] w fun e w'=>parseRes w w' e od/\Below w.heap.size w w':=by
 have hz:(64:Int)<(s.size:Int):=Ab
 go_enter func121,ntmps121
 go_wp2
 exact zg (v:=fh #[Gl 0 0 0 0 0 vp 0 (cf od 0 0),gf vp]) (by simp [results,results121,go_sem]) rfl ⟨⟨_,_,_,_,_,_,_,_,_,_,rfl⟩,Bh _ _⟩
theorem Z5(w:qq)(s:ByteArray)(h:s.size<=64)(HC:Hid (xi prog 168 #[pt s,rl tz 0] (w.alloc (ye #[rl dc 0,rl tz 0,rl tz 0,rl tz 0,rl tz 0,gf vp,rl dc 0,cf od 0 0] 196)) fun e w'=>Un e/\Below (w.alloc (ye #[rl dc 0,rl tz 0,rl tz 0,rl tz 0,rl tz 0,gf vp,rl dc 0,cf od 0 0] 196)).heap.size (w.alloc (ye #[rl dc 0,rl tz 0,rl tz 0,rl tz 0,rl tz 0,gf vp,rl dc 0,cf od 0 0] 196)) w')) :
  xi prog 121 #[pt s] w fun e w'=>parseRes w w' e od/\Below w.heap.size w w':=by
 have hz:¬(64:Int)<(s.size:Int):=Ab
 refine Mh1 ?_;intro N0
 go_enter func121,ntmps121
 go_wp2_with (first
  | (refine wpList_store_row rfl 196 _ _ rfl w.heap.size #[rl dc 0,rl tz 0,rl tz 0,rl tz 0,rl tz 0,gf vp,rl dc 0,cf od 0 0] rfl rfl 196 _ HH2.out Tryz.size196 rfl (Up _ _ _ _ _ _ _ _ _ _) ?_)
  | (go_at_call 168;refine HC.out.mono ?_;rintro e w1 ⟨⟨a,b,c,d,f,x,g,p,m,n,r,rfl⟩,B9⟩;have Cs:Hid (Below w.heap.size w w1):=(Bh _ _).trans (B9.mono Ae);have HH:Hid (w1.heap[w.heap.size]? = lp (ye #[rl dc 0,rl tz 0,rl tz 0,rl tz 0,rl tz 0,gf vp,rl dc 0,cf od 0 0] 196)):=(B9.block _ (ltOf N0.out)).trans N0.out;have HH2:Hid ((w1.alloc (ye #[rl dc a,rl tz b,rl tz c,rl tz d,rl tz f,gf x,rl dc g,cf p m n] 196)).heap[w.heap.size]? = lp (ye #[rl dc 0,rl tz 0,rl tz 0,rl tz 0,rl tz 0,gf vp,rl dc 0,cf od 0 0] 196)):=(Below.heap_alloc _ _ _ (ltOf HH.out)).trans HH.out;clear B9))
 exact P2e
theorem DK(w:qq)(s:ByteArray)(h:s.size<=64)(HC:Hid (xi prog 168 #[pt s,rl tz 0] (w.alloc (ye #[rl dc 0,rl tz 0,rl tz 0,rl tz 0,rl tz 0,gf vp,rl dc 0,cf od 0 0] 196)) fun e w'=>(∃(a b c d f:Int) (x:Bool) (g:Int) (p:Option Addr) (m n:Nat) (r:ByteArray),e=pd (fh #[Gl a b c d f x g (cf p m n),pt r,gf s7])/\r.size≠0)/\Below (w.alloc (ye #[rl dc 0,rl tz 0,rl tz 0,rl tz 0,rl tz 0,gf vp,rl dc 0,cf od 0 0] 196)).heap.size (w.alloc (ye #[rl dc 0,rl tz 0,rl tz 0,rl tz 0,rl tz 0,gf vp,rl dc 0,cf od 0 0] 196)) w')) :
  xi prog 121 #[pt s] w fun e w'=>parseRes w w' e od/\Below w.heap.size w w':=by
 have hz:¬(64:Int)<(s.size:Int):=Ab
 refine Mh1 ?_;intro N0
 go_enter func121,ntmps121
 go_wp2_with (first
  | (refine wpList_store_row rfl 196 _ _ rfl w.heap.size #[rl dc 0,rl tz 0,rl tz 0,rl tz 0,rl tz 0,gf vp,rl dc 0,cf od 0 0] rfl rfl 196 _ HH2.out Tryz.size196 rfl (Up _ _ _ _ _ _ _ _ _ _) ?_)
  | (go_at_call 168;refine HC.out.mono ?_;rintro e w1 ⟨⟨a,b,c,d,f,x,g,p,m,n,r,rfl,hr⟩,B9⟩;have Cs:Hid (Below w.heap.size w w1):=(Bh _ _).trans (B9.mono Ae);have HH:Hid (w1.heap[w.heap.size]? = lp (ye #[rl dc 0,rl tz 0,rl tz 0,rl tz 0,rl tz 0,gf vp,rl dc 0,cf od 0 0] 196)):=(B9.block _ (ltOf N0.out)).trans N0.out;have HH2:Hid ((w1.alloc (ye #[rl dc a,rl tz b,rl tz c,rl tz d,rl tz f,gf x,rl dc g,cf p m n] 196)).heap[w.heap.size]? = lp (ye #[rl dc 0,rl tz 0,rl tz 0,rl tz 0,rl tz 0,gf vp,rl dc 0,cf od 0 0] 196)):=(Below.heap_alloc _ _ _ (ltOf HH.out)).trans HH.out;have Cu:¬r.toList = []:=fun h=>hr ((toList_nil r).1 h);have hnB:(r.toList == [])=vp:=(by simpa using Cu);clear B9 hr))
 exact P2e
theorem JH(w:qq)(s:ByteArray)(h:s.size<=64)(a b c d f:Int)(x:Bool)(g:Int)(pv:Option Addr->Nat->Nat->qq->Prop)(HC:Hid (xi prog 168 #[pt s,rl tz 0] (w.alloc (ye #[rl dc 0,rl tz 0,rl tz 0,rl tz 0,rl tz 0,gf vp,rl dc 0,cf od 0 0] 196)) fun e w'=>(∃(p:Option Addr) (m n:Nat) (r:ByteArray),e=pd (fh #[Gl a b c d f x g (cf p m n),pt r,gf s7])/\r.size=0/\pv p m n w')/\Below (w.alloc (ye #[rl dc 0,rl tz 0,rl tz 0,rl tz 0,rl tz 0,gf vp,rl dc 0,cf od 0 0] 196)).heap.size (w.alloc (ye #[rl dc 0,rl tz 0,rl tz 0,rl tz 0,rl tz 0,gf vp,rl dc 0,cf od 0 0] 196)) w')) :
  xi prog 121 #[pt s] w fun e w'=>(∃p m n wb,e=pd (fh #[Gl a b c d f x g (cf p m n),gf s7])/\pv p m n wb/\wb.heap.size<=w'.heap.size/\∀k,w.heap.size<k->k<wb.heap.size->w'.heap[k]? = wb.heap[k]?)/\Below w.heap.size w w':=by
 have hz:¬(64:Int)<(s.size:Int):=Ab
 refine Mh1 ?_;intro N0
 go_enter func121,ntmps121
 go_wp2_with (first
  | (refine wpList_store_row rfl 196 _ _ rfl w.heap.size #[rl dc a,rl tz b,rl tz c,rl tz d,rl tz f,gf x,rl dc g,cf p m n] rfl rfl 196 _ HH2.out Tryz.size196 rfl (Up _ _ _ _ _ _ _ _ _ _) ?_)
  | (go_at_call 168;refine HC.out.mono ?_;rintro e w1 ⟨⟨p,m,n,r,rfl,hr,hpv⟩,B9⟩;have Cs:Hid (Below w.heap.size w w1):=(Bh _ _).trans (B9.mono Ae);have HH:Hid (w1.heap[w.heap.size]? = lp (ye #[rl dc 0,rl tz 0,rl tz 0,rl tz 0,rl tz 0,gf vp,rl dc 0,cf od 0 0] 196)):=(B9.block _ (ltOf N0.out)).trans N0.out;have HH2:Hid ((w1.alloc (ye #[rl dc a,rl tz b,rl tz c,rl tz d,rl tz f,gf x,rl dc g,cf p m n] 196)).heap[w.heap.size]? = lp (ye #[rl dc 0,rl tz 0,rl tz 0,rl tz 0,rl tz 0,gf vp,rl dc 0,cf od 0 0] 196)):=(Below.heap_alloc _ _ _ (ltOf HH.out)).trans HH.out;have hnil:r.toList = []:=(toList_nil r).2 hr;have HPV:=Bc hpv;clear B9 hr hpv))
 refine Gt (fun X=>X.heap[w.heap.size]? = lp (ye #[rl dc a,rl tz b,rl tz c,rl tz d,rl tz f,gf x,rl dc g,cf p m n] 196)/\Below w.heap.size w X/\w1.heap.size<=X.heap.size/\∀k,w.heap.size<k->k<w1.heap.size->X.heap[k]? = w1.heap[k]?) ⟨fg _ _ _ _ _ _ HH2.out,Ci (Cs.out.alloc Cs.out.size _) (aA _) _,Ae,fun k h1 h2=>(setRow_other _ _ _ _ Ab).trans (Below.heap_alloc _ _ _ h2)⟩ ?_
 rintro X ⟨HQ,hbX,hsX,hkX⟩
 have HS:=Bc hsX
 have HKX:=Bc hkX
 clear hsX hkX
 obtain⟨c0,c1,c2,c3,c4,c5,c6,c7⟩:=KO 0 1 2 3 4 5 6 7 HQ
 exact zg (v:=fh #[Gl a b c d f x g (cf p m n),gf s7]) (by simp [results,results121,go_sem,c0,c1,c2,c3,c4,c5,c6,c7]) rfl ⟨⟨p,m,n,w1,rfl,HPV.out,HS.out,HKX.out⟩,hbX⟩
theorem Q9(w:qq)(s:ByteArray)(hT:Table w):xi prog 121 #[pt s] w fun e w'=>parseRes w w' e (parse s.data.toList)/\Below w.heap.size w w':=by
 unfold parse
 by_cases h:64<s.size
 ·rw [aQ (by rw [←qy];exact h)]
  exact DJ w s h
 ·rw [aO (by rw [←qy];exact h)]
  have hT1:Table (w.alloc (ye #[rl dc 0,rl tz 0,rl tz 0,rl tz 0,rl tz 0,gf vp,rl dc 0,cf od 0 0] 196)):=hT.below (Bh _ _) hT.pos
  have h19:=YT 9 Ab (w.alloc (ye #[rl dc 0,rl tz 0,rl tz 0,rl tz 0,rl tz 0,gf vp,rl dc 0,cf od 0 0] 196)) s 0 hT1 Ab Ab
  cases hp:Orch.ptype 9 s.data.toList with
  | none=>
   rw [hp] at h19
   exact Z5 w s Ab h19
  | some tr=>
   obtain⟨t,rest⟩:=tr
   rw [hp] at h19
   cases rest with
   | cons y ys=>
    refine DK w s Ab (h19.mono ?_)
    rintro e w' ⟨⟨psv,r,rfl,hr,hts⟩,hb⟩
    obtain⟨pa,pc,rfl⟩:=hts.shape
    exact⟨⟨_,_,_,_,_,_,_,_,_,_,r,rfl,by rw [qy,hr];simp⟩,hb⟩
   | nil=>
    refine(JH w s Ab t.l.sign.toNat t.l.shape t.l.size t.l.least t.l.most t.l.text t.l.fin.toNat (fun p m n w'=>El w' (fun b=>w.heap.size+1<=b/\b<w'.heap.size) t.ps (cf p m n)) (h19.mono ?_)).mono ?_
    ·rintro e w' ⟨⟨psv,r,rfl,hr,hts⟩,hb⟩
     obtain⟨pa,pc,rfl⟩:=hts.shape
     exact⟨⟨pa,_,pc,r,rfl,by rw [qy,hr];rfl,by simpa using hts⟩,hb⟩
    ·rintro e w' ⟨⟨p,m,n,wb,rfl,hpv,hs1,H0⟩,hb⟩
     exact⟨⟨_,rfl,hpv.congr (fun b Es=>⟨Ab,Ab⟩) (fun b Es=>H0 b Ab Es.2)⟩,hb⟩
end Go.Proofs.YtjoblhlkfmeckaaGreatDoor
